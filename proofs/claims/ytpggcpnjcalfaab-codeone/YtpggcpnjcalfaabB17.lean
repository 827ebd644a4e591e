/-
  Texts laid together in one: WordsSplit, FrameWrite, CodeFronts, CodeRaws.
-/
import Derived.WalkSpells
import Derived.BigRegion
import Derived.Deep.RegionWith
import Derived.Deep.DrawnRows
import Derived.Test.YtpggcpnjcalfaabProg
import Derived.Test.YtpggcpnjcalfaabB01
import Derived.Test.YtpggcpnjcalfaabB07
import Derived.Deep.RegionLaw
import Derived.Deep.AppendLies
import Derived.Test.YtpggcpnjcalfaabB06
import Derived.Test.YtpggcpnjcalfaabB12
import Derived.Deep.QuietTactic
import Derived.BigQuiet
import Derived.Test.YtpggcpnjcalfaabB13
import Derived.Test.YtpggcpnjcalfaabB05
import Derived.WalkMore
import Derived.Laws.AppendOwn
import Derived.Test.YtpggcpnjcalfaabB10
import Derived.Test.YtpggcpnjcalfaabB11
/-
  What Split of the words package returns, for every list of bytes: its error, and its words in new memory; nothing that was there has turned.
-/
namespace Go.Proofs.Ytpggcpnjcalfaab
open Go.RowKit
set_option maxRecDepth 10000

theorem Split.info : (Try.prog.info? 22).map (fun i => (i.zero, i.size, i.bytes)) = some (some (.int .u32 0), 1, 4) := by kernel_rfl

theorem split_large (a : Option Addr) (n cap : Nat) (w : World) (h : 4194304 < n) :
    Calls Try.prog 32 #[.slice a n cap] w fun e w' => e = .returned (.tuple #[.slice none 0 0, .int .i64 4]) ∧ w = w' := by
  have h' : (4194304 : Int) < (n : Int) := by omega
  go_enter Try.func32, Try.ntmps32
  go_wp2
  go_ret2
  exact ⟨rfl, rfl⟩

theorem split_odd (a : Option Addr) (n cap : Nat) (w : World) (h : ¬ 4194304 < n) (h2 : ¬ n % 4 = 0) :
    Calls Try.prog 32 #[.slice a n cap] w fun e w' => e = .returned (.tuple #[.slice none 0 0, .int .i64 10]) ∧ w = w' := by
  have h' : ¬ (4194304 : Int) < (n : Int) := by omega
  have h2' : (((n : Int) % 4) == 0) = false := by simp; omega
  go_enter Try.func32, Try.ntmps32
  go_wp2
  go_ret2
  exact ⟨rfl, rfl⟩

set_option maxHeartbeats 1000000 in
theorem split_ok (a : Option Addr) (m cap : Nat) (zs : List Int) (w : World) (ha : View .u8 w a zs) (hl : zs.length = 4 * m) (hw : Within 256 zs) (h : ¬ 4194304 < 4 * m) :
    Calls Try.prog 32 #[.slice a (4 * m) cap] w fun e w' => e = .returned (.tuple #[.slice (some ⟨w.heap.size, 0, none⟩) m m, .int .i64 0]) ∧
      w'.ownsRow w.heap.size 22 1 (.slice (some ⟨w.heap.size, 0, none⟩) m m) m ((splitL zs).map (Value.int .u32)) ∧ Below w.heap.size w w' := by
  obtain ⟨i0, hi, hz0, hz1, hz2⟩ := info_parts Split.info
  have HL : Hid (zs.length = 4 * m) := hl
  clear hl
  have h' : ¬ (4194304 : Int) < 4 * (m : Int) := by omega
  go_enter Try.func32, Try.ntmps32
  go_wp2_with (at_make; refine wpList_make_full _ rfl _ _ 44 rfl w.heap.size 22 i0 (.int .u32 0) 1 Try.underlying44 hi hz0 hz1 _ _ _ _ m rfl rfl (by omega) (by omega) (by rw [hz2]; omega) (by unfold maxLen; omega) (Nat.le_refl _) ?_)
  intro w1 hown1 hgrow1
  have hb1 : Below w.heap.size w w1 := (Below.refl _ w).grown hgrow1 (Nat.le_refl _) (by simp)
  have hr1 := made_row zs hown1
  rw [← partL_zero zs zs] at hr1
  clear hown1 hgrow1
  go_wp2
  go_loopw [20] (fun i wr => ∃ k : Nat, k ≤ 4 * m ∧ i = .int .i64 k ∧ wr.ownsRow w.heap.size 22 1 (.slice (some ⟨w.heap.size, 0, none⟩) m m) m ((partL zs k m).map (Value.int .u32)) ∧ Below w.heap.size w wr)
    (fun i _ => 4 * m - (intOf i).toNat)
  case atStart => exact ⟨0, Nat.zero_le _, rfl, hr1, hb1⟩
  case round =>
    obtain ⟨k, hk, rfl, hown, hnx⟩ := hrel
    clear hr1 hb1
    by_cases hlt : k < 4 * m
    · obtain ⟨b, off, rfl, hbs, hc⟩ := ha k (by rw [HL.out]; exact hlt)
      have hx := hw.at (k := k) (by rw [HL.out]; exact hlt)
      have hcr : wr.cell? ⟨b, off + k, none⟩ = some (.int .u8 (nth zs k)) := (hnx.cell (p := ⟨b, off + k, none⟩) hbs).trans hc
      have hpb := partW_bounds zs k (k / 4) hw (by rw [HL.out]; omega)
      have HP : Hid (bits .or .u32 (partW zs k (k / 4)) (plc (nth zs k) (k % 4)) = partW zs (k + 1) (k / 4)) := partW_step zs k hw (by rw [HL.out]; exact hlt)
      have hd : wr.cell? ⟨w.heap.size, k / 4, none⟩ = some (.int .u32 (partW zs k (k / 4))) := by
        rw [hown.cellAt (k / 4) (by omega)]
        have : k / 4 < m := by omega
        simp [partL, this]
      have hf : wr.frozen? ⟨w.heap.size, k / 4, none⟩ = false := hown.frozenAt _
      have hs := (hown.stored (k / 4) (.int .u32 (partW zs (k + 1) (k / 4)))).1
      rw [← List.map_set, partL_set] at hs
      generalize nth zs k = x at hx hcr HP
      generalize partW zs k (k / 4) = y at hpb hd HP
      have hx0 := hx.1
      have hx1 := hx.2
      have hy0 := hpb.1
      have hy1 := hpb.2
      have hk0 : (0 : Int) ≤ (k : Int) / 4 := by omega
      have hk4 : (k : Int) / 4 < (m : Int) := by omega
      have eq : (k : Int).tdiv 4 = ((k / 4 : Nat) : Int) := by rw [Int.tdiv_eq_ediv_of_nonneg (by omega)]; omega
      have em : (k : Int).tmod 4 = ((k % 4 : Nat) : Int) := by rw [Int.tmod_eq_emod_of_nonneg (by omega)]; omega
      have eq' : (k : Int) / 4 = ((k / 4 : Nat) : Int) := by omega
      have em' : (k : Int) % 4 = ((k % 4 : Nat) : Int) := by omega
      have hj : k / 4 < m := by omega
      have hr : k % 4 < 4 := by omega
      have HS : Hid ((wr.setCell ⟨w.heap.size, k / 4, none⟩ (.int .u32 (bits .or .u32 y (plc x (k % 4))))).ownsRow w.heap.size 22 1 (.slice (some ⟨w.heap.size, 0, none⟩) m m) m ((partL zs (k + 1) m).map (Value.int .u32))) := by rw [HP.out]; exact hs
      clear hc hx hpb hown ha hs HP hk0 hk4
      generalize k / 4 = j at *
      generalize k % 4 = r at *
      have hA := fun wx => atPlace_any x (r : Int) wx hx0 hx1 (by omega) (by omega)
      have hj0 : (0 : Int) ≤ (j : Int) := by omega
      have hj1 : (j : Int) < (m : Int) := by omega
      have hwj : IntKind.i64.wrap (j : Int) = (j : Int) := by rw [IntKind.wrap_i64]; omega
      go_wp2
      go_region_with (go_at_call 50; refine (hA _).mono ?_; rintro e w' ⟨rfl, rfl⟩)
      all_goals
        go_wp2
        go_roundw
        case rel => exact ⟨k + 1, by omega, by go_num, HS.out.drew, (hnx.setCell (Nat.le_refl _) _).drew⟩
        case measure => simp [intOf]; omega
    · go_wp2
      go_ret2
      obtain rfl : k = 4 * m := by omega
      have e := partL_whole zs (by rw [HL.out]; omega)
      rw [HL.out, show 4 * m / 4 = m by omega] at e
      rw [e] at hown
      exact ⟨rfl, hown, hnx⟩

theorem split_any (a : Option Addr) (n cap : Nat) (zs : List Int) (w : World) (ha : View .u8 w a zs) (hl : zs.length = n) (hw : Within 256 zs) :
    Calls Try.prog 32 #[.slice a n cap] w fun e w' => ∃ ax m, e = .returned (.tuple #[.slice ax m m, .int .i64 (splitErr zs)]) ∧ (splitOut zs).length = m ∧ View .u32 w' ax (splitOut zs) ∧ NewAt w.heap.size ax ∧ Below w.heap.size w w' := by
  by_cases h : 4194304 < n
  · refine (split_large a n cap w h).mono ?_
    rintro e w' ⟨rfl, rfl⟩
    rw [splitErr_large zs (by omega), splitOut_large zs (by omega)]
    exact ⟨none, 0, rfl, rfl, view_nil, newAt_none, Below.refl _ _⟩
  · by_cases h2 : n % 4 = 0
    · obtain ⟨m, rfl⟩ : ∃ m, n = 4 * m := ⟨n / 4, by omega⟩
      refine (split_ok a m cap zs w ha hl hw h).mono ?_
      rintro e w' ⟨rfl, hown, hb⟩
      rw [splitErr_ok zs (by omega) (by omega), splitOut_ok zs (by omega) (by omega)]
      have hs : (splitL zs).length = m := by rw [splitL_len, hl]; omega
      exact ⟨_, m, rfl, hs, View.ofRow hown hs, newAt_mk (Nat.le_refl _), hb⟩
    · refine (split_odd a n cap w h h2).mono ?_
      rintro e w' ⟨rfl, rfl⟩
      rw [splitErr_odd zs (by omega) (by omega), splitOut_odd zs (by omega) (by omega)]
      exact ⟨none, 0, rfl, rfl, view_nil, newAt_none, Below.refl _ _⟩

end Go.Proofs.Ytpggcpnjcalfaab

/-
  What Write of frame returns, for every head and every list of instructions: its error and its place, or the words, in new memory.
-/
namespace Go.Proofs.Ytpggcpnjcalfaab
open Go.RowKit

theorem write_bound (gen bound : Int) (a : Option Addr) (n cap : Nat) (w : World) (hb0 : 0 ≤ bound) (hb1 : bound < 4294967296) (hb : bound = 0 ∨ 65536 < bound) :
    Calls Try.prog 28 #[.agg #[.int .u32 gen, .int .u32 bound], .slice a n cap] w fun e w' => e = .returned (.tuple #[.slice none 0 0, .agg #[.int .i64 24, .int .i64 0]]) ∧ Below w.heap.size w w' := by
  have hM := fun w => mayBeBound_any bound w hb0 hb1
  have e1 : (!(decide (bound = 0) || decide (65536 < bound))) = false := by rcases hb with h1 | h1 <;> simp [h1]
  rw [e1] at hM
  clear hb e1
  go_enter Try.func28, Try.ntmps28
  go_wp2_with (go_at_call 45; refine (hM _).mono ?_; rintro e w' ⟨rfl, rfl⟩)
  exact bodyPost_ret (v := .tuple #[.slice none 0 0, .agg #[.int .i64 24, .int .i64 0]]) (by simp [results, Try.results28, go_sem]) rfl ⟨rfl, ((Below.refl _ _).alloc (Nat.le_refl _) _).alloc (by simp) _⟩

theorem bound_ok {bound : Int} (hb1 : ¬ bound = 0) (hb2 : ¬ 65536 < bound) : (!(decide (bound = 0) || decide (65536 < bound))) = true := by simp [hb1]; omega

set_option maxRecDepth 100000 in
set_option maxHeartbeats 4000000 in
theorem write_fault (gen bound : Int) (a : Option Addr) (n cap : Nat) (rs : List (Int × List Int)) (w : World) (hb0 : 0 ≤ bound) (hb1 : ¬ bound = 0) (hb2 : ¬ 65536 < bound) (ha : RawsV w a rs) (hok : RawsOk rs) (hl : rs.length = n) (hn : 32 * n ≤ 140737488351232) (hz : ¬ (fault rs 0).1 = 0) :
    Calls Try.prog 28 #[.agg #[.int .u32 gen, .int .u32 bound], .slice a n cap] w fun e w' => e = .returned (.tuple #[.slice none 0 0, .agg #[.int .i64 (fault rs 0).1, .int .i64 (fault rs 0).2]]) ∧ Below w.heap.size w w' := by
  have hF := fun wx (hb : Below w.heap.size w wx) => measure_any a n cap rs wx (ha.below hb) hok hl hn
  have hM := fun w => mayBeBound_any bound w hb0 (by omega)
  rw [bound_ok hb1 hb2] at hM
  have hzb : ((fault rs 0).1 == 0) = false := by simpa using hz
  clear hz
  generalize (fault rs 0).1 = er at hF hzb ⊢
  generalize (fault rs 0).2 = at_ at hF ⊢
  generalize sizeOut rs = so at hF
  clear hl hb1 hb2
  go_enter Try.func28, Try.ntmps28
  go_wp2_with (go_at_call 45; refine (hM _).mono ?_; rintro e w' ⟨rfl, rfl⟩)
  refine (hF _ (((Below.refl _ w).alloc (Nat.le_refl _) (.cells #[.int .u32 gen, .int .u32 bound] 68)).alloc (by simp) (.cells #[.int .i64 0, .int .i64 0] 28))).mono ?_
  rintro e w1 ⟨rfl, hbF⟩
  have hres1 : w1.heap[w.heap.size + 1]? = some (.cells #[.int .i64 0, .int .i64 0] 28 (0, 0)) := by
    rw [hbF.block _ (by simp)]
    have := heap_alloc_new (w.alloc (.cells #[.int .u32 gen, .int .u32 bound] 68)) (.cells #[.int .i64 0, .int .i64 0] 28)
    simpa using this
  have s1 : w.heap.size + 2 ≤ w1.heap.size := by have := hbF.size; simp at this; omega
  have hbw1 : Below w.heap.size w w1 := (((Below.refl _ w).alloc (Nat.le_refl _) _).alloc (by simp) _).trans (hbF.mono (by simp; omega))
  have hres2 := (Below.heap_alloc w1 (.cells #[.int .i64 er, .int .i64 at_] 28) _ (by omega)).trans hres1
  have hbw2 := hbw1.alloc (by omega) (.cells #[.int .i64 er, .int .i64 at_] 28)
  obtain ⟨c0, c1, f1⟩ := cell_of_two hres2
  have f0 : (w1.alloc (.cells #[.int .i64 er, .int .i64 at_] 28)).frozen? ⟨w.heap.size + 1, 0, none⟩ = false := by simp [World.frozen?, hres2]
  have hz := spot_set hres2 (.int .i64 er) (.int .i64 at_)
  have HZ : Hid (_ ∧ _) := hz
  have HB : Hid _ := hbw2
  clear hz hres1 hres2 hbw1 hbF hF hbw2 hM
  go_wp2
  go_region
  all_goals
    go_wp2
    exact bodyPost_ret (v := .tuple #[.slice none 0 0, .agg #[.int .i64 er, .int .i64 at_]]) (by simp [results, Try.results28, go_sem, HZ.out.1, HZ.out.2]) rfl ⟨rfl, by first | exact ((HB.out.setCell (by simp) _).setCell (by simp) _).drew | exact ((HB.out.drew.setCell (by simp) _).setCell (by simp) _) | exact ((HB.out.setCell (by simp) _).setCell (by simp) _)⟩

set_option maxRecDepth 100000 in
set_option maxHeartbeats 4000000 in
theorem write_ok (gen bound : Int) (a : Option Addr) (n cap : Nat) (rs : List (Int × List Int)) (w : World) (hb0 : 0 ≤ bound) (hb1 : ¬ bound = 0) (hb2 : ¬ 65536 < bound) (ha : RawsV w a rs) (hok : RawsOk rs) (hl : rs.length = n) (hn : 32 * n ≤ 140737488351232) (hz : fault rs 0 = (0, 0)) :
    Calls Try.prog 28 #[.agg #[.int .u32 gen, .int .u32 bound], .slice a n cap] w fun e w' => ∃ ax cx m, e = .returned (.tuple #[.slice ax m cx, .agg #[.int .i64 0, .int .i64 0]]) ∧ (writeTo gen bound rs n).length = m ∧
      w'.ownsRow w.heap.size 22 1 (.slice ax m cx) m ((writeTo gen bound rs n).map (Value.int .u32)) ∧ Below w.heap.size w w' := by
  obtain ⟨i0, hi, hz0, hz1, hz2⟩ := info_parts RefWrite.info
  have HL : Hid (rs.length = n) := hl
  have HN : Hid (∀ k, k ≤ n → sizeTo rs k ≤ 1048576 ∧ ∀ j, j < k → (nthR rs j).2.length < 65535) := by
    have := fault_none rs (by rw [hz])
    rw [hl] at this
    exact this
  have HWL : Hid (∀ k, k ≤ n → (writeTo gen bound rs k).length = sizeTo rs k) := fun k hk => writeTo_len gen bound rs k (by omega)
  have HWS : Hid (∀ k, k < n → writeTo gen bound rs (k + 1) = writeTo gen bound rs k ++ rawW (nthR rs k)) := fun k hk => writeTo_succ gen bound rs k (by omega)
  have hF := fun wx (hb : Below w.heap.size w wx) => measure_any a n cap rs wx (ha.below hb) hok hl hn
  have hM := fun w => mayBeBound_any bound w hb0 (by omega)
  rw [bound_ok hb1 hb2] at hM
  have hso : sizeOut rs = (sizeTo rs n : Int) := by unfold sizeOut; rw [hz, if_pos rfl, hl]
  rw [hz, hso] at hF
  have hsn := (HN.out n (Nat.le_refl _)).1
  generalize hsn' : sizeTo rs n = sn at hsn hF
  clear hl hz hb1 hb2 hso
  go_enter Try.func28, Try.ntmps28
  go_wp2_with (go_at_call 45; refine (hM _).mono ?_; rintro e w' ⟨rfl, rfl⟩)
  refine (hF _ (((Below.refl _ w).alloc (Nat.le_refl _) (.cells #[.int .u32 gen, .int .u32 bound] 68)).alloc (by simp) (.cells #[.int .i64 0, .int .i64 0] 28))).mono ?_
  rintro e w1 ⟨rfl, hbF⟩
  have hres1 : w1.heap[w.heap.size + 1]? = some (.cells #[.int .i64 0, .int .i64 0] 28 (0, 0)) := by
    rw [hbF.block _ (by simp)]
    have := heap_alloc_new (w.alloc (.cells #[.int .u32 gen, .int .u32 bound] 68)) (.cells #[.int .i64 0, .int .i64 0] 28)
    simpa using this
  have hbox1 : w1.heap[w.heap.size]? = some (.cells #[.int .u32 gen, .int .u32 bound] 68 (0, 0)) := by
    rw [hbF.block _ (by simp; omega), Below.heap_alloc _ _ _ (by simp)]
    exact heap_alloc_new w _
  have s1 : w.heap.size + 2 ≤ w1.heap.size := by have := hbF.size; simp at this; omega
  have hbw1 : Below w.heap.size w w1 := (((Below.refl _ w).alloc (Nat.le_refl _) _).alloc (by simp) _).trans (hbF.mono (by simp; omega))
  clear hF hbF hM
  go_wp2_with (at_make; refine wpList_make_own _ rfl _ _ 44 rfl (w.heap.size + 2) 22 i0 (.int .u32 0) 1 Try.underlying44 hi hz0 hz1 _ _ _ sn rfl rfl (by omega) (by rw [hz2]; omega) (by unfold maxLen; omega) (by simp; omega) ?_)
  intro w2 hown2 hgrow2
  have s2 := hgrow2.size
  simp only [World.size_alloc] at hown2 s2
  have hres2 : w2.heap[w.heap.size + 1]? = some (.cells #[.int .i64 0, .int .i64 0] 28 (0, 0)) := (hgrow2.block _ (by simp; omega) (by simp)).trans ((Below.heap_alloc w1 _ _ (by omega)).trans hres1)
  have hbox2 := (hgrow2.block w.heap.size (by simp; omega) (by simp)).trans ((Below.heap_alloc w1 _ _ (by omega)).trans hbox1)
  have hbw2 : Below w.heap.size w w2 := (hbw1.alloc (by omega) _).grown hgrow2 (by simp; omega) (fun k hk => by cases hk)
  obtain ⟨c0, c1, _⟩ := cell_of_two hbox2
  clear hgrow2 hres1 hbox1 hbox2 hbw1
  generalize w1.heap.size = G at *
  go_wp2_with (at_builtin; refine wpList_append_lies _ rfl (.tmp 27) (.tmp 32) 44 rfl (w.heap.size + 2) 22 i0 (.int .u32 0) 1 4 Try.underlying44 hi hz0 hz1 hz2 rfl (by omega) (.slice (some ⟨G + 1, 0, none⟩) 0 sn) 0 [] rfl (hown2.alloc _) ⟨w2.heap.size, 0, none⟩ 5 5 [.int .u32 119734787, .int .u32 65536, .int .u32 gen, .int .u32 bound, .int .u32 0] rfl rfl (World.news_of_block (cs := #[.int .u32 119734787, .int .u32 65536, .int .u32 gen, .int .u32 bound, .int .u32 0]) (t := 22) (fr := (0, 0)) (heap_alloc_new w2 _)) (by simp [Value.oneCell']) (by omega) (by unfold maxLen; omega) (by omega) (by simp; omega) (w2.heap.size + 1) (by simp) ?_)
  intro g3 cap3 w3 hown3 hgrow3 hat3 hlt3
  have hres3 := (hgrow3.block (w.heap.size + 1) (by simp; omega) (fun e => by simp [Value.ownBlock] at e; omega)).trans ((Below.heap_alloc w2 _ _ (by omega)).trans hres2)
  have hbw3 : Below w.heap.size w w3 := (hbw2.alloc (by omega) _).grown hgrow3 (by simp; omega) (fun k hk => by simp [Value.ownBlock] at hk; omega)
  clear hgrow3 hat3 hown2 hres2 hbw2 hlt3 c0 c1
  go_wp2
  go_loopw [8, 36] (fun v i wr => ∃ (k : Nat), k ≤ n ∧ i = .int .i64 k ∧ wr.ownsRow (w.heap.size + 2) 22 1 v (sizeTo rs k) ((writeTo gen bound rs k).map (Value.int .u32)) ∧
      wr.heap[w.heap.size + 1]? = some (.cells #[.int .i64 0, .int .i64 0] 28 (0, 0)) ∧ Below w.heap.size w wr)
    (fun _ i _ => n - (intOf i).toNat)
  case atStart => exact ⟨0, Nat.zero_le _, rfl, by simpa [writeTo, sizeTo] using hown3, hres3, hbw3⟩
  case round =>
    obtain ⟨k, hk, rfl, hown, hres, hnx⟩ := hrel
    obtain ⟨ax, cx, rfl⟩ := own_shape hown
    clear hown3 hres3 hbw3
    have hsz := hnx.size
    have hlt1 : w.heap.size + 1 < wr.heap.size := (Array.getElem?_eq_some_iff.1 hres).1
    have hob : ∀ j, Value.ownBlock (.slice ax (sizeTo rs k) cx) = some j → w.heap.size + 2 ≤ j ∧ j < wr.heap.size := fun j hj => by
      rcases hown.2 with ⟨h1, _⟩ | ⟨g, c, cur, h1, h2, h3, _⟩
      · rw [h1] at hj; simp [Value.ownBlock] at hj
      · rw [h1] at hj; simp [Value.ownBlock] at hj; subst hj; exact ⟨h2, (Array.getElem?_eq_some_iff.1 h3).1⟩
    by_cases hlt : k < n
    · obtain ⟨b, off, aj, cj, nj, rfl, hbs, p1, p2, p3, p4, _⟩ := ha k (by rw [HL.out]; exact hlt)
      obtain ⟨o1, o2, _, _⟩ := hok k (by rw [HL.out]; exact hlt)
      have HS : Hid (sizeTo rs (k + 1) = sizeTo rs k + 1 + nj) := by show _ = _; rw [sizeTo_succ rs k (by rw [HL.out]; exact hlt), p3]
      have h1 := (HN.out k hk).1
      have h2 := (HN.out (k + 1) hlt).1
      have h3 := (HN.out (k + 1) hlt).2 k (by omega)
      rw [HS.out] at h2
      rw [p3] at h3
      have HWK : Hid (writeTo gen bound rs (k + 1) = writeTo gen bound rs k ++ ((((nj : Int) + 1) * 65536 + (nthR rs k).1) :: (nthR rs k).2)) := by
        show _ = _; rw [HWS.out k hlt, rawW, p3]
      have HP3 : Hid ((nthR rs k).2.length = nj) := p3
      have q1 := (hnx.cell (p := ⟨b, off + k * 2, none⟩) hbs).trans p1
      have q2 := (hnx.cell (p := ⟨b, off + k * 2 + 1, none⟩) hbs).trans p2
      have hki : (k : Int) < (n : Int) := by omega
      have hk0 : (0 : Int) ≤ (k : Int) := by omega
      have hW := fun wx => firstWord_any (nthR rs k).1 aj nj cj wx h3 o1 o2
      clear p1 p2 p3 hok ha
      generalize hs : sizeTo rs k = s at *
      generalize writeTo gen bound rs k = ws at *
      generalize (nthR rs k).1 = op at *
      generalize (nthR rs k).2 = ms at *
      go_wp2_with fail
      refine (hW _).mono ?_
      rintro e w4 ⟨rfl, hb4⟩
      have s4 := hb4.size
      simp only [World.size_alloc] at s4
      have hown4 := own_below (hown.alloc (.cells #[.int .u16 op, .slice aj nj cj] 46)) hb4
      have hr4 := (hb4.block wr.heap.size (by simp)).trans (heap_alloc_new wr (.cells #[.int .u16 op, .slice aj nj cj] 46))
      have hres4 := (hb4.block (w.heap.size + 1) (by simp; omega)).trans ((Below.heap_alloc wr _ _ hlt1).trans hres)
      have hbw4 : Below w.heap.size w w4 := (hnx.alloc hsz _).trans (hb4.mono (by simp; omega))
      clear hb4 hW q1 q2 hown hres hnx
      go_wp2_with (at_builtin; refine wpList_append_lies _ rfl (.tmp 40) (.tmp 43) 44 rfl (w.heap.size + 2) 22 i0 (.int .u32 0) 1 4 Try.underlying44 hi hz0 hz1 hz2 rfl (by omega) (.slice ax s cx) s _ rfl (hown4.alloc _) ⟨w4.heap.size, 0, none⟩ 1 1 [.int .u32 (((nj : Int) + 1) * 65536 + op)] rfl rfl (World.news_of_block (cs := #[.int .u32 (((nj : Int) + 1) * 65536 + op)]) (t := 22) (fr := (0, 0)) (heap_alloc_new w4 _)) (by simp [Value.oneCell']) (by omega) (by unfold maxLen; omega) (by omega) (by simp; omega) (w4.heap.size + 1) (by simp) ?_)
      intro g5 cap5 w5 hown5 hgrow5 hat5 hlt5
      have hr5 := (hgrow5.block wr.heap.size (by simp; omega) (fun e => by have := (hob _ e.symm).2; omega)).trans ((Below.heap_alloc w4 _ _ (by omega)).trans hr4)
      have hres5 := (hgrow5.block (w.heap.size + 1) (by simp; omega) (fun e => by have := (hob _ e.symm).1; omega)).trans ((Below.heap_alloc w4 _ _ (by omega)).trans hres4)
      have hbw5 : Below w.heap.size w w5 := (hbw4.alloc (by omega) _).grown hgrow5 (by simp; omega) (fun k hk => (by have := (hob k hk).1; omega))
      have s5 := hgrow5.size
      simp only [World.size_alloc] at s5
      obtain ⟨d0, d1, _⟩ := cell_of_two hr5
      have hg5 : w.heap.size + 2 ≤ g5 := by
        rcases hat5 with h | h
        · exact (hob _ h).1
        · omega
      clear hgrow5 hat5 hown4 hr4 hres4 hbw4 hob hr5
      have hown6 : w5.ownsRow (w.heap.size + 2) 22 1 (.slice (some ⟨g5, 0, none⟩) (s + 1) cap5) (s + 1) ((ws ++ [((nj : Int) + 1) * 65536 + op]).map (Value.int .u32)) := by simpa using hown5
      clear hown5
      by_cases hnj : nj = 0
      · subst hnj
        have hms : ms = [] := List.eq_nil_of_length_eq_zero HP3.out
        subst hms
        have hcap : s + 1 ≤ cap5 := by
          rcases hown6.2 with ⟨h, _⟩ | ⟨g, c', cur, h, _, _, h4, _⟩
          · simp at h
          · cases h; exact h4
        go_wp2_with (at_builtin; refine append_run _ rfl (.tmp 45) (.tmp 47) 44 rfl (.slice (some ⟨g5, 0, none⟩) (s + 1) cap5) (.slice aj 0 cj) _ _ rfl rfl (fun ty => run_append_nothing _ _ ty 22 i0 Try.underlying44 hi (some ⟨g5, 0, none⟩) (s + 1) cap5 hcap aj cj) ?_)
        go_wp2
        go_roundw
        case rel => exact ⟨k + 1, by omega, by go_num, by rw [HWK.out, HS.out]; simpa using hown6, hres5, hbw5⟩
        case measure => simp [intOf]; omega
      · obtain ⟨b6, off6, rfl, _, _⟩ := p4 0 (by rw [HP3.out]; omega)
        have hv5 := p4.below hbw5
        have hnews : ∀ j u, (ms.map (Value.int .u32))[j]? = some u → w5.cell? ((⟨b6, off6, none⟩ : Addr).add j) = some u := by
          intro j u hj
          rw [List.getElem?_map] at hj
          have hjl : j < ms.length := by
            rcases Nat.lt_or_ge j ms.length with h | h
            · exact h
            · rw [List.getElem?_eq_none h] at hj; simp at hj
          obtain ⟨b', off', e', _, hc'⟩ := hv5 j hjl
          simp at e'
          obtain ⟨rfl, rfl⟩ := e'
          rw [Addr.add_lit, hc', ← hj, List.getElem?_eq_getElem hjl]
          simp [nth, List.getD, hjl]
        clear p4 hv5
        go_wp2_with (at_builtin; refine wpList_append_lies _ rfl (.tmp 45) (.tmp 47) 44 rfl (w.heap.size + 2) 22 i0 (.int .u32 0) 1 4 Try.underlying44 hi hz0 hz1 hz2 rfl (by omega) (.slice (some ⟨g5, 0, none⟩) (s + 1) cap5) (s + 1) _ rfl hown6 ⟨b6, off6, none⟩ nj cj (ms.map (Value.int .u32)) rfl (by rw [List.length_map, HP3.out]; omega) hnews (ints_oneCell .u32 ms) (by omega) (by unfold maxLen; omega) (by omega) (by omega) w5.heap.size rfl ?_)
        intro g7 cap7 w7 hown7 hgrow7 hat7 hlt7
        have hres7 := (hgrow7.block (w.heap.size + 1) (by omega) (fun e => by simp [Value.ownBlock] at e; omega)).trans hres5
        have hbw7 : Below w.heap.size w w7 := hbw5.grown hgrow7 hbw5.size (fun k hk => by simp [Value.ownBlock] at hk; omega)
        clear hgrow7 hat7 hown6 hres5 hbw5 hnews d0 d1
        go_wp2
        go_roundw
        case rel => exact ⟨k + 1, by omega, by go_num, by rw [HWK.out, HS.out]; simpa using hown7, hres7, hbw7⟩
        case measure => simp [intOf]; omega
    · obtain rfl : k = n := by omega
      obtain ⟨c0, c1, f1⟩ := cell_of_two hres
      have f0 : wr.frozen? ⟨w.heap.size + 1, 0, none⟩ = false := by simp [World.frozen?, hres]
      have hz := spot_set hres (.int .i64 0) (.int .i64 0)
      have HZ : Hid (_ ∧ _) := hz
      clear hz hres ha hok hob
      go_wp2
      refine bodyPost_ret (v := .tuple #[.slice ax (sizeTo rs k) cx, .agg #[.int .i64 0, .int .i64 0]]) (by simp [results, Try.results28, go_sem, HZ.out.1, HZ.out.2]) rfl ⟨ax, cx, _, rfl, HWL.out k hk, ?_, ?_⟩
      · exact own_base (ownsRow_setCell_below (ownsRow_setCell_below hown (by simp) _) (by simp) _) (by omega)
      · exact (hnx.setCell (by simp) _).setCell (by simp) _

/-- Write answers as is asked of it. -/
theorem writeC : WriteC 28 := by
  intro gen bound a n cap rs w _ _ hb0 hb3 ha hok hl hn _
  by_cases h1 : bound = 0 ∨ 65536 < bound
  · have e1 : writeE bound rs = (24, 0) := by unfold writeE; rw [if_pos h1]
    refine (write_bound gen bound a n cap w hb0 hb3 h1).mono ?_
    rintro e w' ⟨rfl, hb⟩
    refine ⟨hb, none, 0, 0, ?_, ?_, ?_⟩
    · simp [e1]
    · simp [writeL, e1]
    · simp only [writeL, e1]; exact World.ownsRow_nil _ _ _ _
  · have e1 : writeE bound rs = fault rs 0 := by unfold writeE; rw [if_neg h1]
    have h2 : ¬ bound = 0 := fun h => h1 (.inl h)
    have h3 : ¬ 65536 < bound := fun h => h1 (.inr h)
    rcases fault_any rs with hz | hz
    · refine (write_ok gen bound a n cap rs w hb0 h2 h3 ha hok hl hn hz).mono ?_
      rintro e w' ⟨ax, cx, m, rfl, h4, h5, hb⟩
      have e2 : writeL gen bound rs = writeTo gen bound rs n := by unfold writeL; rw [e1, hz, if_pos rfl, hl]
      refine ⟨hb, ax, cx, m, ?_, ?_, ?_⟩
      · rw [e1, hz]; rfl
      · rw [e2]; exact h4
      · rw [e2]; exact h5
    · refine (write_fault gen bound a n cap rs w hb0 h2 h3 ha hok hl hn hz).mono ?_
      rintro e w' ⟨rfl, hb⟩
      have e2 : writeL gen bound rs = [] := by unfold writeL; rw [e1, if_neg hz]
      refine ⟨hb, none, 0, 0, ?_, ?_, ?_⟩
      · rw [e1]
      · rw [e2]; rfl
      · rw [e2]; exact World.ownsRow_nil _ _ _ _

end Go.Proofs.Ytpggcpnjcalfaab

/-
  headOf and frontOf of the package code: what they answer.
-/
namespace Go.Proofs.Ytpggcpnjcalfaab
open Go.RowKit

theorem headOf_any (g b : Int) (a : Option Addr) (n c : Nat) (w : World) :
    Calls Try.prog 29 #[modV g b a n c] w fun e w' => e = .returned (.agg #[.int .u32 g, .int .u32 b]) ∧ Below w.heap.size w w' := by
  unfold modV
  go_enter Try.func29, Try.ntmps29
  go_wp2
  refine bodyPost_ret (v := .agg #[.int .u32 g, .int .u32 b]) ?_ rfl ⟨rfl, ?_⟩
  · simp [results, Try.results29, go_sem]
  · exact two_boxes w _ _

theorem frontOf_any (x : InstT) (a : Option Addr) (n c : Nat) (w : World) :
    Calls Try.prog 57 #[instV x a n c] w fun e w' => e = .returned (.agg #[.int .u16 x.1, .int .u32 x.2.1, .int .u32 x.2.2.1]) ∧ Below w.heap.size w w' := by
  unfold instV
  go_enter Try.func57, Try.ntmps57
  go_wp2
  refine bodyPost_ret (v := .agg #[.int .u16 x.1, .int .u32 x.2.1, .int .u32 x.2.2.1]) ?_ rfl ⟨rfl, ?_⟩
  · simp [results, Try.results57, go_sem]
  · exact two_boxes w _ _

end Go.Proofs.Ytpggcpnjcalfaab

/-
  What raws of the package code answers: a module's instructions as words, or the first that is wrong.
-/
namespace Go.Proofs.Ytpggcpnjcalfaab
open Go.RowKit
set_option linter.unusedVariables false
set_option linter.unusedSimpArgs false
set_option maxRecDepth 10000

set_option maxHeartbeats 2000000 in
/-- Of a bound that may not be. -/
theorem raws_bad (gen bound : Int) (a : Option Addr) (n cap : Nat) (l : List InstT) (w : World) (hg0 : 0 ≤ gen) (hg1 : gen < 4294967296) (hb0 : 0 ≤ bound) (hb1 : bound < 4294967296) (hv : InstsV w a l) (hok : InstsOk l) (hl : l.length = n) (hn : 40 * n ≤ 140737488351232) (h1 : bound = 0 ∨ 65536 < bound) :
    Calls Try.prog 27 #[modV gen bound a n cap] w fun e w' => Below w.heap.size w w' ∧ ∃ ax cx m, e = .returned (.tuple #[.slice ax m cx, .agg #[.int .i64 (shapeE bound l).1, .int .i64 (shapeE bound l).2]]) ∧ (rawsR bound l).length = m ∧ m ≤ cx ∧ RawsV w' ax (rawsR bound l) := by
  have hH := fun w => headOf_any gen bound a n cap w
  have hW := fun w => writeC gen bound none 0 0 [] w hg0 hg1 hb0 hb1 rawsV_nil (fun j hj => by simp at hj) rfl (by omega) (by omega)
  unfold modV at hH ⊢
  have HL : Hid (l.length = n) := hl
  have e1 : writeE bound [] = (24, 0) := by unfold writeE; rw [if_pos h1]
  have e2 : shapeE bound l = (24, 0) := by unfold shapeE; rw [if_pos h1]
  have e3 : rawsR bound l = [] := by unfold rawsR; rw [e2]; rfl
  rw [e1] at hW
  rw [e2, e3]
  clear e1 e2 e3 h1 hv hok hl
  go_enter Try.func27, Try.ntmps27
  go_wp2_with fail
  have hB0 : Below w.heap.size w ((w.alloc (.cells #[.int .u32 gen, .int .u32 bound, .slice a n cap] 25)).alloc (.cells #[.int .i64 0, .int .i64 0] 28)) := ((Below.refl _ w).alloc (Nat.le_refl _) _).alloc (by simp) _
  have kX : ((w.alloc (.cells #[.int .u32 gen, .int .u32 bound, .slice a n cap] 25)).alloc (.cells #[.int .i64 0, .int .i64 0] 28)).heap[w.heap.size + 1]? = some (.cells #[.int .i64 0, .int .i64 0] 28 (0, 0)) := by simpa using alloc_new (w.alloc (.cells #[.int .u32 gen, .int .u32 bound, .slice a n cap] 25)) #[.int .i64 0, .int .i64 0] 28
  generalize (w.alloc (.cells #[.int .u32 gen, .int .u32 bound, .slice a n cap] 25)).alloc (.cells #[.int .i64 0, .int .i64 0] 28) = W0 at *
  have l0 := (Array.getElem?_eq_some_iff.1 kX).1
  refine (hH _).mono ?_
  rintro e w1 ⟨rfl, hb1'⟩
  have s1 := hb1'.size
  go_wp2_with fail
  refine (hW _).mono ?_
  rintro e w2 ⟨hb2, ax, cx, m, rfl, hm, hown⟩
  have s2 := hb2.size
  have hb3 : Below w2.heap.size w2 (w2.alloc (.cells #[.int .i64 24, .int .i64 0] 28)) := (Below.refl _ _).alloc (Nat.le_refl _) _
  have hbA := hb1'.trans ((hb2.trans (hb3.mono s2)).mono s1)
  have kX3 := (hbA.block _ l0).trans kX
  have kS := alloc_new w2 #[.int .i64 24, .int .i64 0] 28
  have hbW := hB0.trans (hbA.mono hB0.size)
  obtain ⟨c0, c1, _⟩ := cell_of_two kX3
  have f0 := (one_block kX3).2 0
  have f1 := (one_block kX3).2 1
  obtain ⟨d0, d1, _⟩ := cell_of_two kS
  have hne : w2.heap.size ≠ w.heap.size + 1 := by omega
  clear hb1' hb2 hb3 hbA hown hm hH hW
  have hz : ((0 : Nat) : Int) = 0 := rfl
  go_wp2
  go_region
  go_wp2
  have hB := two_put2 kX3 (.int .i64 24) (.int .i64 0)
  have hBel := (hbW.trans ((two_below (w2.alloc (.cells #[.int .i64 24, .int .i64 0] 28)) (w.heap.size + 1) (.int .i64 24) (.int .i64 0)).mono (by omega))).drew
  have hB' : ((((w2.alloc (.cells #[.int .i64 24, .int .i64 0] 28)).setCell ⟨w.heap.size + 1, 0, none⟩ (.int .i64 24)).setCell ⟨w.heap.size + 1, 1, none⟩ (.int .i64 0)).drew).heap[w.heap.size + 1]? = some (.cells #[.int .i64 24, .int .i64 0] 28 (0, 0)) := hB
  clear c0 c1 f0 f1 d0 d1 kX3 kS hB
  generalize (((w2.alloc (.cells #[.int .i64 24, .int .i64 0] 28)).setCell ⟨w.heap.size + 1, 0, none⟩ (.int .i64 24)).setCell ⟨w.heap.size + 1, 1, none⟩ (.int .i64 0)).drew = WF at hB' hBel ⊢
  obtain ⟨g0, g1, _⟩ := cell_of_two hB'
  refine bodyPost_ret (v := .tuple #[.slice none 0 0, .agg #[.int .i64 24, .int .i64 0]]) ?_ rfl ⟨hBel, none, 0, 0, rfl, rfl, Nat.le_refl _, rawsV_nil⟩
  simp [results, Try.results27, go_sem, g0, g1]

theorem Raws.info : (Try.prog.info? 46).map (fun i => (i.zero, i.size, i.bytes)) = some (some (.agg #[.int .u16 0, .slice none 0 0]), 2, 32) := by kernel_rfl

/-- A module's words while they are gathered. -/
structure RawsS (w wr : World) (gen bound : Int) (a : Option Addr) (n cap : Nat) (v : Value) (rs : List (Int × List Int)) : Prop where
  row : ∃ cs, wr.ownsRow (w.heap.size + 2) 46 2 v rs.length cs ∧ RowO wr (w.heap.size + 2) v.ownBlock rs cs
  mbox : wr.heap[w.heap.size]? = some (.cells #[.int .u32 gen, .int .u32 bound, .slice a n cap] 25 (0, 0))
  sbox : wr.heap[w.heap.size + 1]? = some (.cells #[.int .i64 0, .int .i64 0] 28 (0, 0))
  bel : Below w.heap.size w wr

theorem RawsS.below {w wr wr' : World} {gen bound : Int} {a : Option Addr} {n cap : Nat} {v : Value} {rs : List (Int × List Int)} (h : RawsS w wr gen bound a n cap v rs) (hb : Below wr.heap.size wr wr') : RawsS w wr' gen bound a n cap v rs := by
  obtain ⟨cs, h1, h2⟩ := h.row
  exact ⟨⟨cs, own_below h1 hb, h2.below hb⟩, (hb.block _ (Array.getElem?_eq_some_iff.1 h.mbox).1).trans h.mbox, (hb.block _ (Array.getElem?_eq_some_iff.1 h.sbox).1).trans h.sbox, h.bel.trans (hb.mono h.bel.size)⟩
theorem RawsS.push {w wr W w6 : World} {gen bound : Int} {a : Option Addr} {n cap : Nat} {v v' : Value} {rs : List (Int × List Int)} {cs : List Value} {op : Int} {ms : List Int} {aj : Option Addr} {nj cj g' : Nat} (h : RawsS w wr gen bound a n cap v rs) (h1 : wr.ownsRow (w.heap.size + 2) 46 2 v rs.length cs) (h2 : RowO wr (w.heap.size + 2) v.ownBlock rs cs)
    (hb : Below wr.heap.size wr W) (hs : W.ownsRow wr.heap.size 22 1 (.slice aj nj cj) nj (ms.map (Value.int .u32))) (hl : ms.length = nj) (hg : W.grownBy w6 v.ownBlock) (hat : v.ownBlock = some g' ∨ g' = W.heap.size) (hv' : v'.ownBlock = some g')
    (hown : w6.ownsRow (w.heap.size + 2) 46 2 v' (rs.length + 1) (cs ++ [.int .u16 op, .slice aj nj cj])) : RawsS w w6 gen bound a n cap v' (rs ++ [(op, ms)]) := by
  have hlo : ∀ g, v.ownBlock = some g → w.heap.size + 2 ≤ g ∧ g < wr.heap.size := fun g e => h1.lt g e
  have hl1 := (Array.getElem?_eq_some_iff.1 h.sbox).1
  have hS := h.below hb
  have hl2 := (Array.getElem?_eq_some_iff.1 hS.sbox).1
  refine ⟨⟨_, by rw [List.length_append]; exact hown, by rw [hv']; exact h2.push hb hs hl (fun b e => (hlo b e).2) (by omega) hg hat⟩, ?_, ?_, ?_⟩
  · exact (hg.block _ (by omega) (fun e => by have := (hlo _ e.symm).1; omega)).trans hS.mbox
  · exact (hg.block _ hl2 (fun e => by have := (hlo _ e.symm).1; omega)).trans hS.sbox
  · exact hS.bel.grown hg hS.bel.size (fun k e => by have := (hlo k e).1; omega)

theorem spot_store {w wr : World} {gen bound : Int} {a : Option Addr} {n cap : Nat} {v : Value} {rs : List (Int × List Int)} (h : RawsS w wr gen bound a n cap v rs) : wr.cell? ⟨w.heap.size + 1, 0, none⟩ = some (.int .i64 0) ∧ wr.cell? ⟨w.heap.size + 1, 1, none⟩ = some (.int .i64 0) ∧ wr.frozen? ⟨w.heap.size + 1, 0, none⟩ = false ∧ wr.frozen? ⟨w.heap.size + 1, 1, none⟩ = false := by
  obtain ⟨hc, hf⟩ := one_block h.sbox
  exact ⟨hc 0, hc 1, hf 0, hf 1⟩

set_option maxHeartbeats 4000000 in
/-- Of a bound that may be. -/
theorem raws_ok (gen bound : Int) (a : Option Addr) (n cap : Nat) (l : List InstT) (w : World) (hg0 : 0 ≤ gen) (hg1 : gen < 4294967296) (hb0 : 0 ≤ bound) (hb1 : bound < 4294967296) (hv : InstsV w a l) (hok : InstsOk l) (hl : l.length = n) (hn : 40 * n ≤ 140737488351232) (h1 : ¬ (bound = 0 ∨ 65536 < bound)) :
    Calls Try.prog 27 #[modV gen bound a n cap] w fun e w' => Below w.heap.size w w' ∧ ∃ ax cx m, e = .returned (.tuple #[.slice ax m cx, .agg #[.int .i64 (shapeE bound l).1, .int .i64 (shapeE bound l).2]]) ∧ (rawsR bound l).length = m ∧ m ≤ cx ∧ RawsV w' ax (rawsR bound l) := by
  obtain ⟨i0, hi, hz0, hz1, hz2⟩ := info_parts Raws.info
  have HI : Hid (Try.prog.info? 46 = some i0 ∧ i0.zero = some (.agg #[.int .u16 0, .slice none 0 0]) ∧ i0.size = 2 ∧ i0.bytes = 32) := ⟨hi, hz0, hz1, hz2⟩
  clear hi hz0 hz1 hz2
  have hH := fun w => headOf_any gen bound a n cap w
  have hW := fun w => writeC gen bound none 0 0 [] w hg0 hg1 hb0 hb1 rawsV_nil (fun j hj => by simp at hj) rfl (by omega) (by omega)
  unfold modV at hH ⊢
  have HL : Hid (l.length = n) := hl
  have e1 : writeE bound [] = (0, 0) := by unfold writeE; rw [if_neg h1]; rfl
  have e2 : writeL gen bound [] = [119734787, 65536, gen, bound, 0] := by unfold writeL; rw [e1]; rfl
  rw [e1, e2] at hW
  have HE : Hid (shapeE bound l = shapeF bound 0 5 l) := by show _ = _; unfold shapeE; rw [if_neg h1]
  have HV : Hid (InstsV w a l) := hv
  have HOK : Hid (InstsOk l) := hok
  clear e1 e2 h1 hv hok hl
  obtain ⟨E, hE⟩ : ∃ E, E = shapeE bound l := ⟨_, rfl⟩
  obtain ⟨RR, hRR⟩ : ∃ RR, RR = rawsR bound l := ⟨_, rfl⟩
  rw [← hE, ← hRR]
  have HEE : Hid (E = shapeE bound l) := hE
  have HRR : Hid (RR = rawsR bound l) := hRR
  clear hE hRR
  go_enter Try.func27, Try.ntmps27
  go_wp2_with fail
  have hB0 : Below w.heap.size w ((w.alloc (.cells #[.int .u32 gen, .int .u32 bound, .slice a n cap] 25)).alloc (.cells #[.int .i64 0, .int .i64 0] 28)) := ((Below.refl _ w).alloc (Nat.le_refl _) _).alloc (by simp) _
  have hS0 : RawsS w ((w.alloc (.cells #[.int .u32 gen, .int .u32 bound, .slice a n cap] 25)).alloc (.cells #[.int .i64 0, .int .i64 0] 28)) gen bound a n cap (.slice none 0 0) [] :=
    ⟨⟨[], World.ownsRow_nil _ _ _ _, rowO_nil⟩, (Below.heap_alloc _ _ _ (by simp)).trans (alloc_new w _ _), by simpa using alloc_new (w.alloc (.cells #[.int .u32 gen, .int .u32 bound, .slice a n cap] 25)) #[.int .i64 0, .int .i64 0] 28, hB0⟩
  clear hB0
  generalize (w.alloc (.cells #[.int .u32 gen, .int .u32 bound, .slice a n cap] 25)).alloc (.cells #[.int .i64 0, .int .i64 0] 28) = W0 at *
  refine (hH _).mono ?_
  rintro e w1 ⟨rfl, hb1'⟩
  have hS1 := hS0.below hb1'
  clear hS0 hb1' hH
  go_wp2_with fail
  refine (hW _).mono ?_
  rintro e w2 ⟨hb2, ax, cx, m, rfl, hm, hown⟩
  obtain rfl : 5 = m := hm
  have hS2 := hS1.below hb2
  have hS3 := hS2.below ((Below.refl _ w2).alloc (Nat.le_refl _) (.cells #[.int .i64 0, .int .i64 0] 28))
  obtain ⟨d0, d1, _⟩ := cell_of_two (alloc_new w2 #[.int .i64 0, .int .i64 0] 28)
  have m2 := (one_block hS3.mbox).1 2
  have HS3 : Hid _ := hS3
  clear hS1 hb2 hS2 hS3 hown hW
  go_wp2
  go_loopw [6, 7, 27] (fun c v i wr => ∃ k : Nat, k ≤ n ∧ i = .int .i64 k ∧ c = .int .i64 (sizeTo (rawsL bound l) k) ∧ sizeTo (rawsL bound l) k ≤ 1048576 ∧ E = shapeF bound k (sizeTo (rawsL bound l) k) (l.drop k) ∧ RawsS w wr gen bound a n cap v (rawsL bound (l.take k))) (fun _ _ i _ => n - (intOf i).toNat)
  case atStart => exact ⟨0, Nat.zero_le _, rfl, rfl, by rw [sizeTo_zero]; decide, by rw [HEE.out, HE.out, sizeTo_zero]; rfl, HS3.out⟩
  case round =>
    obtain ⟨k, hk, rfl, rfl, hsz, hEk, hS⟩ := hrel
    clear HS3 d0 d1 m2 HE
    have HEK : Hid (E = shapeF bound k (sizeTo (rawsL bound l) k) (l.drop k)) := hEk
    clear hEk
    have hA := HV.out.below hS.bel
    obtain ⟨a', cap', rfl⟩ : ∃ a cap, u7 = .slice a (rawsL bound (l.take k)).length cap := by
      obtain ⟨cs, h1, _⟩ := hS.row
      rcases h1.2 with ⟨rfl, h0⟩ | ⟨g, cap, cur, rfl, _⟩
      · exact ⟨none, 0, by rw [h0]⟩
      · exact ⟨_, _, rfl⟩
    have hlk : (rawsL bound (l.take k)).length = k := by rw [rawsL_len, List.length_take, HL.out]; omega
    rw [hlk] at hS ⊢
    by_cases hlt : k < n
    · have hkl : k < l.length := by rw [HL.out]; exact hlt
      obtain ⟨b1, o1, aj, cj, nj, rfl, hbl, p1, p2, p3, p4, p5, p6, p7⟩ := hA k hkl
      have hEs := shape_step bound l k hkl
      have hss := sizeTo_succ (rawsL bound l) k (by rw [rawsL_len]; exact hkl)
      rw [nthR_raws bound l k hkl] at hss
      have htk := rawsL_take bound l k hkl
      have hRn := HRR.out
      have hox := HOK.out k hkl
      have hRaw := fun wx (hx : Below wr.heap.size wr wx) => raw_any (nthI l k) bound aj nj cj wx (p6.below hx) hox p5
      have hEk := HEK.out
      rw [hEs] at hEk
      have HEK2 : Hid _ := hEk
      have HSS : Hid _ := hss
      have HTK : Hid _ := htk
      have hro : rawE (nthI l k) bound = 0 → rawO (nthI l k) bound = (nthI l k).1 := fun h => by unfold rawO; rw [if_pos h]
      clear hEs hss htk HEK hEk hRn hA p6 hox
      generalize hx : nthI l k = x at *
      have hki : (k : Int) < (n : Int) := by omega
      have hk0 : (0 : Int) ≤ (k : Int) := by omega
      obtain ⟨xo, xt, xr, xl⟩ := x
      unfold instV at hRaw
      simp only at *
      have mb := (one_block (hS.below ((Below.refl _ wr).alloc (Nat.le_refl _) (.cells #[.int .u16 xo, .int .u32 xt, .int .u32 xr, .slice aj nj cj] 43))).mbox).1 1
      have hbA : Below wr.heap.size wr (wr.alloc (.cells #[.int .u16 xo, .int .u32 xt, .int .u32 xr, .slice aj nj cj] 43)) := (Below.refl _ wr).alloc (Nat.le_refl _) _
      have hC := hRaw _ hbA
      go_wp2_with fail
      generalize wr.alloc (.cells #[.int .u16 xo, .int .u32 xt, .int .u32 xr, .slice aj nj cj] 43) = WA at *
      refine hC.mono ?_
      rintro e w5 ⟨hb5, a5, m5, c5, rfl, hm5, hown5⟩
      have hbB : Below wr.heap.size wr w5 := hbA.trans (hb5.mono hbA.size)
      have hS5 := hS.below hbB
      have hown5' := own_lo hown5 hbA.size
      clear hC hRaw hb5 hbA mb p1 p2 p3 p4 hown5
      have HM5 : Hid _ := hm5
      by_cases hr : rawE (xo, xt, xr, xl) bound = 0
      · have hro' := hro hr
        rw [hr, hro']
        have hEk := HEK2.out
        rw [if_neg (by simp [hr])] at hEk
        have HEK3 : Hid _ := hEk
        clear hro hro' hEk HEK2
        have hbC : Below wr.heap.size wr (w5.alloc (.cells #[.int .u16 xo, .slice a5 m5 c5] 46)) := hbB.alloc hbB.size _
        obtain ⟨q0, q1, _⟩ := cell_of_two (alloc_new w5 #[.int .u16 xo, .slice a5 m5 c5] 46)
        have hss : (sizeTo (rawsL bound l) (k + 1) : Nat) = sizeTo (rawsL bound l) k + 1 + m5 := by rw [HSS.out, HM5.out]
        have hm5b : m5 < 65535 := by rw [← HM5.out]; exact rawWs_len _ _
        by_cases hbig : 1048576 < sizeTo (rawsL bound l) (k + 1)
        · have hE4 : E = (4, k) := by rw [HEK3.out, if_pos hbig]
          have hbig' : (1048576 : Int) < (sizeTo (rawsL bound l) k : Int) + (1 + (m5 : Int)) := by omega
          generalize sizeTo (rawsL bound l) k = sz at *
          clear hbC hbig hss HEK3 HSS HTK hr HM5 hm5
          have hR : RR = [] := by rw [HRR.out, rawsR, ← HEE.out, hE4, if_neg (by first | exact hr | simp)]
          subst hR hE4
          have hS6 := hS5.below ((Below.refl _ w5).alloc (Nat.le_refl _) (.cells #[.int .u16 xo, .slice a5 m5 c5] 46))
          obtain ⟨s0, s1, f0, f1⟩ := spot_store hS6
          have hB3 := two_put2 hS6.sbox (.int .i64 4) (.int .i64 (k : Int))
          have hBel := hS6.bel.trans ((two_below (w5.alloc (.cells #[.int .u16 xo, .slice a5 m5 c5] 46)) (w.heap.size + 1) (.int .i64 4) (.int .i64 (k : Int))).mono (by omega))
          have HB3 : Hid _ := hB3
          have HBel : Hid _ := hBel
          clear hS6 hS5 hS hbB hown5' hB3 hBel HRR HEE HV HOK
          go_wp2
          have hB3 := HB3.out
          have hBel := HBel.out
          clear HB3 HBel s0 s1 f0 f1
          generalize ((w5.alloc _).setCell _ _).setCell _ _ = W at hB3 hBel ⊢
          obtain ⟨hd, _⟩ := one_block hB3
          have d0 := hd 0
          have d1 := hd 1
          refine bodyPost_ret (v := .tuple #[.slice none 0 0, .agg #[.int .i64 4, .int .i64 (k : Int)]]) ?_ rfl ⟨hBel, none, 0, 0, rfl, rfl, Nat.le_refl _, rawsV_nil⟩
          simp [results, Try.results27, go_sem, d0, d1]
        · have hE5 : E = shapeF bound (k + 1) (sizeTo (rawsL bound l) (k + 1)) (l.drop (k + 1)) := by rw [HEK3.out, if_neg hbig]
          have HE5 : Hid _ := hE5
          have hbig' : ¬ (1048576 : Int) < (sizeTo (rawsL bound l) k : Int) + (1 + (m5 : Int)) := by omega
          have HBG : Hid (sizeTo (rawsL bound l) (k + 1) ≤ 1048576) := by show _ ≤ _; omega
          have HSK : Hid ((sizeTo (rawsL bound l) k : Int) + (1 + (m5 : Int)) = (sizeTo (rawsL bound l) (k + 1) : Nat)) := by show _ = _; omega
          obtain ⟨cs, hc1, hc2⟩ := hS.row
          have N0 : Below wr.heap.size wr ((w5.alloc (.cells #[.int .u16 xo, .slice a5 m5 c5] 46)).alloc (.cells #[.int .u16 xo, .slice a5 m5 c5] 46)) := hbC.alloc hbC.size _
          have N1 : Hid (((w5.alloc (.cells #[.int .u16 xo, .slice a5 m5 c5] 46)).alloc (.cells #[.int .u16 xo, .slice a5 m5 c5] 46)).ownsRow (w.heap.size + 2) 46 2 (.slice a' k cap') k cs) := own_below (by rw [hlk] at hc1; exact hc1) N0
          have N2 : Hid (∀ (j : Nat) (u : Value), [Value.int .u16 xo, .slice a5 m5 c5][j]? = some u → ((w5.alloc (.cells #[.int .u16 xo, .slice a5 m5 c5] 46)).alloc (.cells #[.int .u16 xo, .slice a5 m5 c5] 46)).cell? ((⟨w5.heap.size + 1, 0, none⟩ : Addr).add j) = some u) := World.news_of_block (cs := #[.int .u16 xo, .slice a5 m5 c5]) (t := 46) (fr := (0, 0)) (by first | exact alloc_new _ _ _ | simpa using alloc_new (w5.alloc (.cells #[.int .u16 xo, .slice a5 m5 c5] 46)) #[.int .u16 xo, .slice a5 m5 c5] 46)
          have N3 : Hid (∀ u : Value, u ∈ [Value.int .u16 xo, .slice a5 m5 c5] → u.oneCell' = true) := by intro u hu; simp at hu; rcases hu with rfl | rfl <;> rfl
          have N4 : k + 1 ≤ maxLen := by unfold maxLen; omega
          have N5 : (k + 1) * 32 ≤ 140737488355328 := by omega
          have hl1 := (Array.getElem?_eq_some_iff.1 hS.sbox).1
          have N6 : Hid (w.heap.size + 2 ≤ ((w5.alloc (.cells #[.int .u16 xo, .slice a5 m5 c5] 46)).alloc (.cells #[.int .u16 xo, .slice a5 m5 c5] 46)).heap.size) := by show _ ≤ _; have := N0.size; omega
          have N7 : Hid (((w5.alloc (.cells #[.int .u16 xo, .slice a5 m5 c5] 46)).alloc (.cells #[.int .u16 xo, .slice a5 m5 c5] 46)).ownsRow wr.heap.size 22 1 (.slice a5 m5 c5) m5 ((rawWs (xo, xt, xr, xl) bound).map (Value.int .u32))) := own_below (own_below hown5' ((Below.refl _ w5).alloc (Nat.le_refl _) _)) ((Below.refl _ _).alloc (Nat.le_refl _) _)
          have HN0 : Hid _ := N0
          have HS : Hid _ := hS
          have HC1 : Hid _ := hc1
          have HC2 : Hid _ := hc2
          have HLK : Hid _ := hlk
          clear hS hS5 hbB hbC hown5' N0 hc1 hc2 hss hbig hr HEK3 hE5 hm5 hlk hl1
          generalize sizeTo (rawsL bound l) k = sz at *
          go_wp2_with (at_builtin; refine wpList_append_lies _ rfl (.tmp 54) (.tmp 56) 62 rfl (w.heap.size + 2) 46 i0 (.agg #[.int .u16 0, .slice none 0 0]) 2 32 Try.underlying62 HI.out.1 HI.out.2.1 HI.out.2.2.1 HI.out.2.2.2 rfl (by decide) (.slice a' k cap') k cs rfl N1.out ⟨w5.heap.size + 1, 0, none⟩ 1 1 [.int .u16 xo, .slice a5 m5 c5] rfl rfl N2.out N3.out (by decide) N4 N5 N6.out _ rfl ?_)
          intro g6 cap6 w6 hown6 hgr6 hat6 hlt6
          have hS6 := HS.out.push (v' := .slice (some ⟨g6, 0, none⟩) (k + 1) cap6) HC1.out HC2.out HN0.out N7.out HM5.out hgr6 (by simpa using hat6) rfl (by rw [HLK.out]; exact hown6)
          rw [← HTK.out] at hS6
          have HS6 : Hid _ := hS6
          clear hS6 hown6 hgr6 hat6 N1 N2 N3 N6 N7 HN0 HS HC1 HC2 q0 q1
          go_wp2
          go_roundw
          case rel => exact ⟨k + 1, by omega, by go_num, by first | exact congrArg (Value.int .i64) HSK.out | (rw [← HSK.out]), HBG.out, HE5.out, HS6.out⟩
          case measure => simp [intOf]; omega
      · have hE4 : E = (rawE (xo, xt, xr, xl) bound, k) := by rw [HEK2.out, if_pos hr]
        generalize rawE (xo, xt, xr, xl) bound = er at *
        generalize rawO (xo, xt, xr, xl) bound = ro at *
        generalize sizeTo (rawsL bound l) k = sz at *
        clear HEK2 HSS HTK HM5 hm5 hro
        have hR : RR = [] := by rw [HRR.out, rawsR, ← HEE.out, hE4, if_neg (by first | exact hr | simp)]
        subst hR hE4
        have hS6 := hS5.below ((Below.refl _ w5).alloc (Nat.le_refl _) (.cells #[.int .u16 ro, .slice a5 m5 c5] 46))
        obtain ⟨s0, s1, f0, f1⟩ := spot_store hS6
        have hB3 := two_put2 hS6.sbox (.int .i64 er) (.int .i64 (k : Int))
        have hBel := hS6.bel.trans ((two_below (w5.alloc (.cells #[.int .u16 ro, .slice a5 m5 c5] 46)) (w.heap.size + 1) (.int .i64 er) (.int .i64 (k : Int))).mono (by omega))
        have HB3 : Hid _ := hB3
        have HBel : Hid _ := hBel
        clear hS6 hS5 hS hbB hown5' hB3 hBel HRR HEE HV HOK
        go_wp2
        have hB3 := HB3.out
        have hBel := HBel.out
        clear HB3 HBel s0 s1 f0 f1
        generalize ((w5.alloc _).setCell _ _).setCell _ _ = W at hB3 hBel ⊢
        obtain ⟨hd, _⟩ := one_block hB3
        have d0 := hd 0
        have d1 := hd 1
        refine bodyPost_ret (v := .tuple #[.slice none 0 0, .agg #[.int .i64 er, .int .i64 (k : Int)]]) ?_ rfl ⟨hBel, none, 0, 0, rfl, rfl, Nat.le_refl _, rawsV_nil⟩
        simp [results, Try.results27, go_sem, d0, d1]
    · obtain rfl : k = n := by omega
      have hR : RR = rawsL bound (l.take k) := by
        rw [HRR.out, rawsR, ← HEE.out, HEK.out, shape_end bound l k _ (by rw [HL.out]; exact Nat.le_refl _), if_pos rfl, List.take_of_length_le (by rw [HL.out]; exact Nat.le_refl _)]
      have hE0 : E = (0, 0) := by rw [HEK.out, shape_end bound l k _ (by rw [HL.out]; exact Nat.le_refl _)]
      subst hR hE0
      obtain ⟨s0, s1, f0, f1⟩ := spot_store hS
      obtain ⟨cs, hown, hrow⟩ := hS.row
      rw [hlk] at hown
      have hcap : k ≤ cap' := by
        rcases hown.2 with ⟨h1, h2⟩ | ⟨g, c', cur, h1, _, _, h4, _⟩
        · omega
        · cases h1; exact h4
      have hB3 := two_put2 hS.sbox (.int .i64 0) (.int .i64 0)
      have hBel := hS.bel.trans ((two_below wr (w.heap.size + 1) (.int .i64 0) (.int .i64 0)).mono (by omega))
      have hV3 : RawsV ((wr.setCell ⟨w.heap.size + 1, 0, none⟩ (.int .i64 0)).setCell ⟨w.heap.size + 1, 1, none⟩ (.int .i64 0)) a' (rawsL bound (l.take k)) := by
        refine ((hrow.grown ((grown_setCell wr (w.heap.size + 1) 0 _).trans (grown_setCell _ (w.heap.size + 1) 1 _)) (fun g e => .inl (by cases e; omega))).own (own_apartly hown ((grown_setCell wr (w.heap.size + 1) 0 _).trans (grown_setCell _ (w.heap.size + 1) 1 _)) (fun g e => .inl (by cases e; omega))) hlk).view
      have HV3 : Hid _ := hV3
      clear hown hrow hV3 HOK HV HRR HEE HEK hA
      go_wp2
      generalize (wr.setCell ⟨w.heap.size + 1, 0, none⟩ (.int .i64 0)).setCell ⟨w.heap.size + 1, 1, none⟩ (.int .i64 0) = W at hB3 hBel HV3 ⊢
      obtain ⟨hd, _⟩ := one_block hB3
      have d0 := hd 0
      have d1 := hd 1
      refine bodyPost_ret (v := .tuple #[.slice a' k cap', .agg #[.int .i64 0, .int .i64 0]]) ?_ rfl ⟨hBel, a', cap', k, rfl, by first | exact hlk | rfl, hcap, HV3.out⟩
      simp [results, Try.results27, go_sem, d0, d1]

theorem raws_any (gen bound : Int) (a : Option Addr) (n cap : Nat) (l : List InstT) (w : World) (hg0 : 0 ≤ gen) (hg1 : gen < 4294967296) (hb0 : 0 ≤ bound) (hb1 : bound < 4294967296) (hv : InstsV w a l) (hok : InstsOk l) (hl : l.length = n) (hn : 40 * n ≤ 140737488351232) :
    Calls Try.prog 27 #[modV gen bound a n cap] w fun e w' => Below w.heap.size w w' ∧ ∃ ax cx m, e = .returned (.tuple #[.slice ax m cx, .agg #[.int .i64 (shapeE bound l).1, .int .i64 (shapeE bound l).2]]) ∧ (rawsR bound l).length = m ∧ m ≤ cx ∧ RawsV w' ax (rawsR bound l) := by
  by_cases h1 : bound = 0 ∨ 65536 < bound
  · exact raws_bad gen bound a n cap l w hg0 hg1 hb0 hb1 hv hok hl hn h1
  · exact raws_ok gen bound a n cap l w hg0 hg1 hb0 hb1 hv hok hl hn h1

end Go.Proofs.Ytpggcpnjcalfaab
