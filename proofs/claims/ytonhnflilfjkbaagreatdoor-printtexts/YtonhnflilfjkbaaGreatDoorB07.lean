/-
  Texts laid together in one: CodeAdd, WordsAtPlace, StringsIndexByte, WordsOfText, CodePut, MathI, MathT, MathN, WordsByteAt, WordsTextEnd, WordsJoin, WordsText, WordsText2, SlicesClone, Ref01Byte, Ref01Text, WordsTextSame, WordsReader, WordsReaderCalls, CodeRarg, CodeRargs.
-/
import Derived.WalkSpells
import Derived.WalkMore
import Derived.Test.YtonhnflilfjkbaaGreatDoorB01
import Derived.Test.YtonhnflilfjkbaaGreatDoorB06
import Derived.Test.YtonhnflilfjkbaaGreatDoorB04
import Derived.Test.YtonhnflilfjkbaaGreatDoorB05
import Derived.Test.YtonhnflilfjkbaaGreatDoorProg
import Derived.BigRegion
import Derived.Deep.RegionWith
import Derived.Deep.DrawnRows
import Derived.Test.YtonhnflilfjkbaaGreatDoorB02
import Derived.Deep.QuietTactic
import Derived.BigQuiet
import Derived.Test.YtonhnflilfjkbaaGreatDoorB03
import Derived.Laws.AppendOwn
/-
  A writer of the package code in memory, and what its method add does.
-/
namespace Go.Proofs.YtonhnflilfjkbaaGreatDoor
open Go.RowKit
set_option linter.unusedVariables false
set_option linter.unusedSimpArgs false

/-- A writer's cells. -/
def wrtC (o : Int) (f : Frm) (b : Int) (v : Value) (c : Int) : Array Value := #[.int .u16 o, .string f.1, .bool f.2.1, .bool f.2.2.1, .string f.2.2.2.1, .string f.2.2.2.2.1, .int .i64 f.2.2.2.2.2.1, .int .u8 f.2.2.2.2.2.2, .int .u32 b, v, .int .i64 c]

/-- A writer at B: its form, its bound, its words and how many it has counted. -/
structure Wrt (w : World) (B : Nat) (o : Int) (f : Frm) (b : Int) (zs : List Int) (c : Int) : Prop where
  box : ∃ v, w.heap[B]? = some (.cells (wrtC o f b v c) 94 (0, 0)) ∧ w.ownsRow (B + 1) 22 1 v zs.length (zs.map (Value.int .u32))
  len : (zs.length : Int) + 1 ≤ c ∧ zs.length ≤ 65535

/-- What a writer's call leaves: all below it, and all that is no words. -/
structure KeepW (B : Nat) (w w' : World) : Prop where
  below : Below B w w'
  keep : ∀ k cs T fr, w.heap[k]? = some (.cells cs T fr) → k ≠ B → T ≠ 22 → w'.heap[k]? = some (.cells cs T fr)

theorem KeepW.refl (B : Nat) (w : World) : KeepW B w w := ⟨Below.refl _ _, fun _ _ _ _ h _ _ => h⟩
theorem KeepW.trans {B : Nat} {w w' w'' : World} (h : KeepW B w w') (h' : KeepW B w' w'') : KeepW B w w'' := ⟨h.below.trans h'.below, fun k cs T fr e n t => h'.keep k cs T fr (h.keep k cs T fr e n t) n t⟩
theorem KeepW.of_below {B : Nat} {w w' : World} (h : Below w.heap.size w w') (hB : B ≤ w.heap.size) : KeepW B w w' := ⟨h.mono hB, fun k cs T fr e _ _ => (h.block k (Array.getElem?_eq_some_iff.1 e).1).trans e⟩
theorem Wrt.below {w w' : World} {B : Nat} {o : Int} {f : Frm} {b : Int} {zs : List Int} {c : Int} (h : Wrt w B o f b zs c) (hb : Below w.heap.size w w') : Wrt w' B o f b zs c := by
  obtain ⟨⟨v, h1, h2⟩, h3⟩ := h
  exact ⟨⟨v, (hb.block B (Array.getElem?_eq_some_iff.1 h1).1).trans h1, own_below h2 hb⟩, h3⟩
theorem Wrt.lt {w : World} {B : Nat} {o : Int} {f : Frm} {b : Int} {zs : List Int} {c : Int} (h : Wrt w B o f b zs c) : B < w.heap.size := by
  obtain ⟨⟨v, h1, h2⟩, h3⟩ := h
  exact (Array.getElem?_eq_some_iff.1 h1).1

theorem setBox {w : World} {B T : Nat} {cs : Array Value} (h : w.heap[B]? = some (.cells cs T (0, 0))) (i : Nat) (u : Value) : (w.setCell ⟨B, i, none⟩ u).heap[B]? = some (.cells (cs.setIfInBounds i u) T (0, 0)) := by
  simp [World.setCell, Array.getElem?_modify, h]
theorem ownFar {w : World} {lo e size n B : Nat} {v : Value} {xs : List Value} (h : w.ownsRow lo e size v n xs) (hB : B < lo) (i : Nat) (u : Value) : (w.setCell ⟨B, i, none⟩ u).ownsRow lo e size v n xs := by
  refine ⟨h.1, ?_⟩
  rcases h.2 with hn | ⟨g, cap, cur, rfl, hb, hgg, rest⟩
  · exact .inl hn
  · refine .inr ⟨g, cap, cur, rfl, hb, ?_, rest⟩
    exact (Below.heap_setCell _ _ _ _ (by simp; omega)).trans hgg
theorem setOther {w : World} {B k : Nat} (i : Nat) (u : Value) (h : k ≠ B) : (w.setCell ⟨B, i, none⟩ u).heap[k]? = w.heap[k]? := Below.heap_setCell _ _ _ _ (by simpa using h)
/-- The row's block is of its elements' type. -/
theorem own_type {w : World} {lo e size n g : Nat} {v : Value} {xs : List Value} (h : w.ownsRow lo e size v n xs) (hg : v.ownBlock = some g) : lo ≤ g ∧ ∃ cs fr, w.heap[g]? = some (.cells cs e fr) := by
  rcases h.2 with ⟨rfl, _⟩ | ⟨g', cap, cur, rfl, hb, hgg, _⟩
  · simp [Value.ownBlock] at hg
  · simp [Value.ownBlock] at hg
    subst hg
    exact ⟨hb, _, _, hgg⟩

/-- The words behind an add: they are only counted once there are too many. -/
def putL (c k : Int) (zs ms : List Int) : List Int := if c + k ≤ 65535 then zs ++ ms else zs

theorem Add.info : (Tryz.prog.info? 22).map (fun i => (i.zero, i.size, i.bytes)) = some (some (.int .u32 0), 1, 4) := by kernel_rfl

set_option maxRecDepth 10000 in
set_option maxHeartbeats 1000000 in
theorem add_any (B : Nat) (o : Int) (f : Frm) (b : Int) (zs : List Int) (c : Int) (k : Int) (a : Option Addr) (n cap : Nat) (ms : List Int) (w : World) (hW : Wrt w B o f b zs c) (ha : View .u32 w a ms) (hnB : NewAt (B + 1) a) (hl : ms.length = n) (hk : (n : Int) ≤ k) (hc : c + k < 9223372036854775808) :
    Calls Tryz.prog 150 #[.pointer (some ⟨B, 0, none⟩), .int .i64 k, .slice a n cap] w fun e w' => e = .returned (.tuple #[]) ∧ KeepW B w w' ∧ Wrt w' B o f b (putL c k zs ms) (c + k) := by
  obtain ⟨i0, hi, hz0, hz1, hz2⟩ := info_parts Add.info
  obtain ⟨⟨v, hbox, hown⟩, hlen, hlen2⟩ := hW
  have hBl := (Array.getElem?_eq_some_iff.1 hbox).1
  obtain ⟨hcl, hfr⟩ := one_block hbox
  have c9 := hcl 9
  have c10 := hcl 10
  have hbox1 := setBox hbox 10 (.int .i64 (c + k))
  have hown1 := ownFar hown (Nat.lt_succ_self B) 10 (.int .i64 (c + k))
  have hv1 : View .u32 (w.setCell ⟨B, 10, none⟩ (.int .i64 (c + k))) a ms := ha.setCell hnB (Nat.lt_succ_self B) _
  have hwr : IntKind.i64.wrap (c + k) = c + k := wrapI _ (by omega) (by omega)
  change w.cell? ⟨B, 9, none⟩ = some v at c9
  change w.cell? ⟨B, 10, none⟩ = some (.int .i64 c) at c10
  change (w.setCell ⟨B, 10, none⟩ (.int .i64 (c + k))).heap[B]? = some (.cells (wrtC o f b v (c + k)) 94 (0, 0)) at hbox1
  have f10 := hfr 10
  have f9 := hfr 9
  have hcl1 := one_block hbox1
  have d9 := hcl1.1 9
  have d10 := hcl1.1 10
  have g9 := hcl1.2 9
  change (w.setCell ⟨B, 10, none⟩ (.int .i64 (c + k))).cell? ⟨B, 9, none⟩ = some v at d9
  change (w.setCell ⟨B, 10, none⟩ (.int .i64 (c + k))).cell? ⟨B, 10, none⟩ = some (.int .i64 (c + k)) at d10
  clear hcl hfr hcl1
  by_cases hle : c + k ≤ 65535
  · rw [putL, if_pos hle]
    have HBX : Hid _ := hbox
    have HBX1 : Hid _ := hbox1
    have HO1 : Hid _ := hown1
    have HV1 : Hid _ := hv1
    have HO : Hid _ := hown
    have HL : Hid (ms.length = n) := hl
    have HI : Hid (Tryz.prog.info? 22 = some i0 ∧ i0.zero = some (.int .u32 0) ∧ i0.size = 1 ∧ i0.bytes = 4) := ⟨hi, hz0, hz1, hz2⟩
    have hnl : (zs.length : Int) + n + 1 ≤ 65535 := by omega
    clear hbox hbox1 hown1 hv1 hown hl hnB ha hi hz0 hz1 hz2
    go_enter Tryz.func150, Tryz.ntmps150
    go_wp2_with (at_builtin; refine wpList_append_view _ rfl (.tmp 23) (.tmp 24) 52 rfl (B + 1) 22 i0 (.int .u32 0) 4 .u32 Tryz.underlying52 HI.out.1 HI.out.2.1 HI.out.2.2.1 HI.out.2.2.2 rfl v zs.length zs rfl HO1.out a n cap ms rfl HV1.out HL.out (by unfold maxLen; omega) (by omega) (by simp; omega) ?_)
    intro v' w2 hown2 hgr
    have hne : ∀ g, v.ownBlock = some g → B ≠ g := fun g e => by have := (own_type HO.out e).1; omega
    have hbox2 : w2.heap[B]? = some (.cells (wrtC o f b v (c + k)) 94 (0, 0)) := (hgr.block B (by simpa using hBl) (fun e => hne B e.symm rfl)).trans HBX1.out
    obtain ⟨hcl2, hfr2⟩ := one_block hbox2
    have e9 := hcl2 9
    have h9 := hfr2 9
    change w2.cell? ⟨B, 9, none⟩ = some v at e9
    rw [← List.map_append] at hown2
    obtain ⟨a', cap', rfl, _, _⟩ := View.ofOwned hown2
    have HOWN2 : Hid _ := hown2
    have HGR : Hid _ := hgr
    have HB2 : Hid _ := hbox2
    clear hcl2 hfr2 hown2 hgr hbox2 c9 c10 d9 d10 g9 f9 f10
    go_wp2
    go_end0
    refine ⟨rfl, ⟨?_, ?_⟩, ⟨_, setBox HB2.out 9 _, ?_⟩, by simp [HL.out]; omega, by simp [HL.out]; omega⟩
    · refine (((Below.refl B w).setCell (p := ⟨B, 10, none⟩) (Nat.le_refl _) _).grown HGR.out (by simp; omega) (fun k' e => ?_)).setCell (p := ⟨B, 9, none⟩) (Nat.le_refl _) _
      have := (own_type HO.out e).1
      omega
    · intro k' cs T fr e hn ht
      rw [setOther 9 _ hn]
      refine (HGR.out.block k' (by simpa using (Array.getElem?_eq_some_iff.1 e).1) (fun e2 => ?_)).trans ((setOther 10 _ hn).trans e)
      obtain ⟨_, cs2, fr2, h2⟩ := own_type HO.out e2.symm
      rw [e] at h2
      cases h2
      exact ht rfl
    · rw [List.length_append, HL.out]
      exact ownFar HOWN2.out (Nat.lt_succ_self B) 9 _
  · rw [putL, if_neg hle]
    go_enter Tryz.func150, Tryz.ntmps150
    go_wp2_with fail
    go_end0
    refine ⟨rfl, ⟨(Below.refl _ _).setCell (p := ⟨B, 10, none⟩) (Nat.le_refl _) _, fun k' cs T fr e n t => (setOther 10 _ n).trans e⟩, ⟨v, hbox1, hown1⟩, by omega, hlen2⟩

end Go.Proofs.YtonhnflilfjkbaaGreatDoor

/-
  What atPlace of the words package returns, for every byte and every place from 0 to 3.
-/
namespace Go.Proofs.YtonhnflilfjkbaaGreatDoor
open Go.RowKit
set_option maxRecDepth 10000

theorem atPlace_any (c p : Int) (w : World) (hx : 0 ≤ c) (hx2 : c < 256) (h0 : 0 ≤ p) (h3 : p < 4) :
    Calls Tryz.prog 99 #[.int .u8 c, .int .i64 p] w fun e w' => e = .returned (.int .u32 (plc c p.toNat)) ∧ w = w' := by
  rcases (show p = 0 ∨ p = 1 ∨ p = 2 ∨ p = 3 by omega) with rfl | rfl | rfl | rfl
  all_goals
    go_enter Tryz.func99, Tryz.ntmps99
    go_wp2
    go_ret
    exact ⟨ret_int (by simp [plc]), rfl⟩

end Go.Proofs.YtonhnflilfjkbaaGreatDoor

/-
  What strings.IndexByte returns of the byte 0: below 0 where there is none, else 0 or more.
-/
namespace Go.Proofs.YtonhnflilfjkbaaGreatDoor
open Go.RowKit
set_option maxRecDepth 10000

theorem indexByte_any (s : ByteArray) (w : World) :
    Calls Tryz.prog 173 #[.string s, .int .u8 0] w fun e w' => e = .returned (.int .i64 (Lib.indexByte s.data.toList (0 : Int).toNat.toUInt8)) ∧ w = w' := by
  have hx := fun (w : World) => run_callFunc_extern (P := Tryz.prog) (f := 182) Tryz.func182 (by kernel_rfl) (by kernel_rfl) (by kernel_rfl) (e := Extern.BytealgIndexByte.indexByte) (by kernel_rfl) #[.string s, .int .u8 0] w
  simp only [Lib.run_indexByteString, Result.andThen] at hx
  generalize Lib.indexByte s.data.toList (0 : Int).toNat.toUInt8 = r at hx
  go_enter Tryz.func173, Tryz.ntmps173
  go_wp2
  go_ret
  exact ⟨rfl, rfl⟩

end Go.Proofs.YtonhnflilfjkbaaGreatDoor

/-
  What OfText of the words package returns, for every string: its error, or its words in new memory; nothing that was there has turned.
-/
namespace Go.Proofs.YtonhnflilfjkbaaGreatDoor
open Go.RowKit

theorem OfText.info : (Tryz.prog.info? 22).map (fun i => (i.zero, i.size, i.bytes)) = some (some (.int .u32 0), 1, 4) := by kernel_rfl

theorem ofText_nul (s : ByteArray) (w : World) (k : Nat) (hk : k < s.size) (h : nth (strI s) k = 0) :
    Calls Tryz.prog 152 #[.string s] w fun e w' => e = .returned (.tuple #[.slice none 0 0, .int .i64 13]) ∧ w = w' := by
  have hi := index_some s k hk h
  have hI := indexByte_any s w
  generalize Lib.indexByte s.data.toList (0 : Int).toNat.toUInt8 = r at hi hI
  clear h hk
  go_enter Tryz.func152, Tryz.ntmps152
  go_wp2_with fail
  refine hI.mono ?_
  rintro e w' ⟨rfl, rfl⟩
  go_wp2
  go_ret2
  exact ⟨rfl, rfl⟩

theorem ofText_large (s : ByteArray) (w : World) (hs : s.size ≤ 140737488351232) (h : NoNul s) (hl : 65535 < s.size / 4 + 1) :
    Calls Tryz.prog 152 #[.string s] w fun e w' => e = .returned (.tuple #[.slice none 0 0, .int .i64 4]) ∧ w = w' := by
  have hI := indexByte_any s w
  rw [index_none s h] at hI
  have hl' : (65535 : Int) < (s.size : Int) / 4 + 1 := by omega
  clear h
  go_enter Tryz.func152, Tryz.ntmps152
  go_wp2_with fail
  refine hI.mono ?_
  rintro e w' ⟨rfl, rfl⟩
  go_wp2
  go_ret2
  exact ⟨rfl, rfl⟩

theorem room_any (s : ByteArray) (w : World) (hs : s.size ≤ 140737488351232) :
    Calls Tryz.prog 153 #[.string s] w fun e w' => e = .returned (.int .i64 ((s.size / 4 + 1 : Nat) : Int)) ∧ w = w' := by
  go_enter Tryz.func153, Tryz.ntmps153
  go_wp2
  go_ret
  exact ⟨ret_int (by omega), rfl⟩

set_option maxRecDepth 10000 in
set_option maxHeartbeats 1000000 in
theorem ofText_ok (s : ByteArray) (w : World) (h : NoNul s) (hl : s.size / 4 + 1 ≤ 65535) :
    Calls Tryz.prog 152 #[.string s] w fun e w' => e = .returned (.tuple #[.slice (some ⟨w.heap.size, 0, none⟩) (s.size / 4 + 1) (s.size / 4 + 1), .int .i64 0]) ∧
      w'.ownsRow w.heap.size 22 1 (.slice (some ⟨w.heap.size, 0, none⟩) (s.size / 4 + 1) (s.size / 4 + 1)) (s.size / 4 + 1) ((textW s).map (Value.int .u32)) ∧ Below w.heap.size w w' := by
  obtain ⟨i0, hi, hz0, hz1, hz2⟩ := info_parts OfText.info
  have hI := indexByte_any s w
  rw [index_none s h] at hI
  have hR := fun wx => room_any s wx (by omega)
  have HT : Hid (partL (padI s) s.size (s.size / 4 + 1) = textW s) := partL_padI s
  clear h
  obtain ⟨m, hm⟩ : ∃ m, m = s.size / 4 + 1 := ⟨_, rfl⟩
  rw [← hm] at HT hR ⊢
  have HM : Hid (m = s.size / 4 + 1) := hm
  have hsz : s.size < 4 * m := by omega
  have hm2 : m ≤ 65535 := by omega
  have hl' : ¬ (65535 : Int) < (m : Int) := by omega
  clear hm hl
  go_enter Tryz.func152, Tryz.ntmps152
  go_wp2_with fail
  refine hI.mono ?_
  rintro e w' ⟨rfl, rfl⟩
  go_wp2_with (first | (go_at_call 153; refine (hR _).mono ?_; rintro e w' ⟨rfl, rfl⟩) | (at_make; refine wpList_make_full _ rfl _ _ 52 rfl w.heap.size 22 i0 (.int .u32 0) 1 Tryz.underlying52 hi hz0 hz1 _ _ _ _ m rfl rfl (by omega) (by omega) (by rw [hz2]; omega) (by unfold maxLen; omega) (Nat.le_refl _) ?_))
  intro w1 hown1 hgrow1
  have hb1 : Below w.heap.size w w1 := (Below.refl _ w).grown hgrow1 (Nat.le_refl _) (by simp)
  have hr1 := made_row (padI s) hown1
  rw [← partL_zero (padI s) (padI s)] at hr1
  clear hown1 hgrow1
  go_wp2
  go_loopw [17] (fun i wr => ∃ k : Nat, k ≤ s.size ∧ i = .int .i64 k ∧ wr.ownsRow w.heap.size 22 1 (.slice (some ⟨w.heap.size, 0, none⟩) m m) m ((partL (padI s) k m).map (Value.int .u32)) ∧ Below w.heap.size w wr)
    (fun i _ => s.size - (intOf i).toNat)
  case atStart => exact ⟨0, Nat.zero_le _, rfl, hr1, hb1⟩
  case round =>
    obtain ⟨k, hk, rfl, hown, hnx⟩ := hrel
    clear hr1 hb1
    by_cases hlt : k < s.size
    · have hpb := partW_bounds (padI s) k (k / 4) (padI_within s) (by rw [padI_len]; omega)
      have HP : Hid (bits .or .u32 (partW (padI s) k (k / 4)) (plc (s[k].toNat : Int) (k % 4)) = partW (padI s) (k + 1) (k / 4)) := by
        have := partW_step (padI s) k (padI_within s) (by rw [padI_len]; omega)
        rw [padI_lo s k hlt, nth_strI s k hlt] at this
        exact this
      have hd : wr.cell? ⟨w.heap.size, k / 4, none⟩ = some (.int .u32 (partW (padI s) k (k / 4))) := by
        rw [hown.cellAt (k / 4) (by omega)]
        have : k / 4 < m := by omega
        simp [partL, this]
      have hf : wr.frozen? ⟨w.heap.size, k / 4, none⟩ = false := hown.frozenAt _
      have hs := (hown.stored (k / 4) (.int .u32 (partW (padI s) (k + 1) (k / 4)))).1
      rw [← List.map_set, partL_set] at hs
      have hx1 : (s[k].toNat : Int) < 256 := by have := s[k].toNat_lt; omega
      generalize partW (padI s) k (k / 4) = y at hpb hd HP
      have hy0 := hpb.1
      have hy1 := hpb.2
      have eq : (k : Int).tdiv 4 = ((k / 4 : Nat) : Int) := by rw [Int.tdiv_eq_ediv_of_nonneg (by omega)]; omega
      have em : (k : Int).tmod 4 = ((k % 4 : Nat) : Int) := by rw [Int.tmod_eq_emod_of_nonneg (by omega)]; omega
      have eq' : (k : Int) / 4 = ((k / 4 : Nat) : Int) := by omega
      have em' : (k : Int) % 4 = ((k % 4 : Nat) : Int) := by omega
      have hj : k / 4 < m := by omega
      have hr : k % 4 < 4 := by omega
      have HS : Hid ((wr.setCell ⟨w.heap.size, k / 4, none⟩ (.int .u32 (bits .or .u32 y (plc (s[k].toNat : Int) (k % 4))))).ownsRow w.heap.size 22 1 (.slice (some ⟨w.heap.size, 0, none⟩) m m) m ((partL (padI s) (k + 1) m).map (Value.int .u32))) := by rw [HP.out]; exact hs
      clear hpb hown hs HP hl' hI hR
      generalize k / 4 = j at *
      generalize k % 4 = r at *
      have hA := fun wx => atPlace_any (s[k].toNat : Int) (r : Int) wx (by omega) hx1 (by omega) (by omega)
      have hj0 : (0 : Int) ≤ (j : Int) := by omega
      have hj1 : (j : Int) < (m : Int) := by omega
      have hk0 : (0 : Int) ≤ (k : Int) := by omega
      have hk1 : (k : Int) < (s.size : Int) := by omega
      have hwj : IntKind.i64.wrap (j : Int) = (j : Int) := by rw [IntKind.wrap_i64]; omega
      go_wp2
      go_region_with (go_at_call 99; refine (hA _).mono ?_; rintro e w' ⟨rfl, rfl⟩)
      all_goals
        go_wp2
        go_roundw
        case rel => exact ⟨k + 1, by omega, by go_num, HS.out.drew, (hnx.setCell (Nat.le_refl _) _).drew⟩
        case measure => simp [intOf]; omega
    · go_wp2
      go_ret2
      obtain rfl : k = s.size := by omega
      rw [HT.out] at hown
      exact ⟨rfl, hown, hnx⟩

end Go.Proofs.YtonhnflilfjkbaaGreatDoor

/-
  What the methods of the package code's writer do that put one argument: a word, a text; and whether an argument may stand.
-/
namespace Go.Proofs.YtonhnflilfjkbaaGreatDoor
open Go.RowKit
set_option linter.unusedVariables false
set_option linter.unusedSimpArgs false
set_option maxRecDepth 10000

theorem view_one {w : World} (n : Int) : View .u32 (w.alloc (.cells #[.int .u32 n] 22)) (some ⟨w.heap.size, 0, none⟩) [n] := by
  intro j hj
  obtain rfl : j = 0 := by simpa using hj
  refine ⟨w.heap.size, 0, rfl, by simp, ?_⟩
  rw [Nat.zero_add, World.cell?_alloc_new]
  rfl

theorem Wrt.bound {w : World} {B : Nat} {o : Int} {f : Frm} {b : Int} {zs : List Int} {c : Int} (h : Wrt w B o f b zs c) : w.cell? ⟨B, 8, none⟩ = some (.int .u32 b) ∧ w.cell? ⟨B, 0, none⟩ = some (.int .u16 o) := by
  obtain ⟨⟨v, h1, h2⟩, h3⟩ := h
  obtain ⟨hc, _⟩ := one_block h1
  exact ⟨hc 8, hc 0⟩

set_option maxHeartbeats 1000000 in
theorem putWord_any (B : Nat) (o : Int) (f : Frm) (b : Int) (zs : List Int) (cn : Int) (c : Int) (x : ArgT) (w : World) (hW : Wrt w B o f b zs cn) (hc : cn + 1 < 9223372036854775808) :
    Calls Tryz.prog 125 #[.pointer (some ⟨B, 0, none⟩), .int .u8 c, argV x] w fun e w' => e = .returned (.int .i64 (faultW c x.2.1 b)) ∧ KeepW B w w' ∧ (faultW c x.2.1 b = 0 → Wrt w' B o f b (putL cn 1 zs [x.2.1]) (cn + 1)) ∧ (faultW c x.2.1 b ≠ 0 → Wrt w' B o f b zs cn) := by
  obtain ⟨kd, n, st⟩ := x
  unfold argV
  simp only
  have hBl := hW.lt
  have hW1 := hW.below ((Below.refl _ w).alloc (Nat.le_refl _) (.cells #[.int .u8 kd, .int .u32 n, .string st] 61))
  have hb1 : Below w.heap.size w (w.alloc (.cells #[.int .u8 kd, .int .u32 n, .string st] 61)) := (Below.refl _ w).alloc (Nat.le_refl _) _
  have hl1 : w.heap.size < (w.alloc (.cells #[.int .u8 kd, .int .u32 n, .string st] 61)).heap.size := by simp
  have hN : (w.alloc (.cells #[.int .u8 kd, .int .u32 n, .string st] 61)).cell? ⟨w.heap.size, 1, none⟩ = some (.int .u32 n) := (one_block (alloc_new w #[.int .u8 kd, .int .u32 n, .string st] 61)).1 1
  obtain ⟨r, hr⟩ : ∃ r, r = faultW c n b := ⟨_, rfl⟩
  by_cases h0 : faultW c n b = 0
  · rw [h0]
    go_enter Tryz.func125, Tryz.ntmps125
    go_wp2_with fail
    generalize w.alloc (.cells #[.int .u8 kd, .int .u32 n, .string st] 61) = W at *
    have a1 := fun s : InC (Below W.heap.size W) => s.cell (p := ⟨w.heap.size, 1, none⟩) hl1 hN
    have hF := fun s : InC (Below W.heap.size W) => Calls.inC s (faultW_any B c n b s.w (by have := s.ok.size; omega) (s.cell (p := ⟨B, 8, none⟩) (by show B < _; omega) hW1.bound.1))
    rw [h0] at hF
    refine wp_region_class (C := Below W.heap.size W) (by kernel_rfl) (by kernel_rfl) (below_drew W) ?_
    have hne : Nonempty (InC (Below W.heap.size W)) := ⟨⟨W, Below.refl _ _⟩⟩
    repeat (go_big_quiet_step ((go_at_call 149; exact hF _)))
    refine wpQuiet_nil ?_
    rintro _ ⟨s, rfl⟩
    have a2 := a1 s
    have hW2 := hW1.below s.ok
    have hbs := hb1.trans (s.ok.mono (by omega))
    have hss := hbs.size
    obtain ⟨s, hs⟩ := s
    simp only at *
    have hW3 := hW2.below ((Below.refl _ s).alloc (Nat.le_refl _) (.cells #[.int .u32 n] 22))
    have hA := add_any B o f b zs cn 1 (some ⟨s.heap.size, 0, none⟩) 1 1 [n] _ hW3 (view_one n) (newAt_mk (by omega)) rfl (by omega) hc
    have hK := KeepW.of_below (hbs.trans (((Below.refl _ s).alloc (Nat.le_refl _) (.cells #[.int .u32 n] 22)).mono hss)) (show B ≤ w.heap.size by omega)
    clear hne hF a1 hN hW1 hW2 hW3 hs
    go_wp2_with fail
    refine hA.mono ?_
    rintro e w4 ⟨rfl, hk4, hW4⟩
    clear hA a2
    go_wp2
    go_ret
    exact ⟨rfl, hK.trans hk4, fun _ => hW4, fun h => absurd rfl h⟩
  · have hr0 : ¬ r = 0 := by rw [hr]; exact h0
    rw [← hr]
    go_enter Tryz.func125, Tryz.ntmps125
    go_wp2_with fail
    generalize w.alloc (.cells #[.int .u8 kd, .int .u32 n, .string st] 61) = W at *
    have a1 := fun s : InC (Below W.heap.size W) => s.cell (p := ⟨w.heap.size, 1, none⟩) hl1 hN
    have hF := fun s : InC (Below W.heap.size W) => Calls.inC s (faultW_any B c n b s.w (by have := s.ok.size; omega) (s.cell (p := ⟨B, 8, none⟩) (by show B < _; omega) hW1.bound.1))
    rw [← hr] at hF
    have HR : Hid (r = faultW c n b) := hr
    clear hr h0
    refine wp_region_class (C := Below W.heap.size W) (by kernel_rfl) (by kernel_rfl) (below_drew W) ?_
    have hne : Nonempty (InC (Below W.heap.size W)) := ⟨⟨W, Below.refl _ _⟩⟩
    repeat (go_big_quiet_step ((go_at_call 149; exact hF _)))
    refine wpQuiet_nil ?_
    rintro _ ⟨s, rfl⟩
    have hbs := hb1.trans (s.ok.mono (by omega))
    have hW2 := hW1.below s.ok
    clear hne hF a1 hN
    go_wp2
    go_ret
    exact ⟨rfl, KeepW.of_below hbs (by omega), fun h => absurd h hr0, fun _ => hW2⟩

theorem putText_nul (B : Nat) (o : Int) (f : Frm) (b : Int) (zs : List Int) (cn : Int) (c : Int) (x : ArgT) (w : World) (hW : Wrt w B o f b zs cn) (k : Nat) (hk : k < x.2.2.size) (h : nth (strI x.2.2) k = 0) :
    Calls Tryz.prog 127 #[.pointer (some ⟨B, 0, none⟩), .int .u8 c, argV x] w fun e w' => e = .returned (.int .i64 13) ∧ KeepW B w w' := by
  obtain ⟨kd, n, st⟩ := x
  unfold argV
  simp only at *
  have hO := fun w => ofText_nul st w k hk h
  have hBl := hW.lt
  clear h
  go_enter Tryz.func127, Tryz.ntmps127
  go_wp2_with fail
  refine (hO _).mono ?_
  rintro e w1 ⟨rfl, rfl⟩
  go_wp2
  go_ret
  exact ⟨rfl, KeepW.of_below ((Below.refl _ w).alloc (Nat.le_refl _) _) (by omega)⟩

theorem putText_ok (B : Nat) (o : Int) (f : Frm) (b : Int) (zs : List Int) (cn : Int) (c : Int) (x : ArgT) (w : World) (hW : Wrt w B o f b zs cn) (h : NoNul x.2.2) (hs : x.2.2.size ≤ 140737488351232) (hc : cn + ((x.2.2.size / 4 + 1 : Nat) : Int) < 9223372036854775808) :
    Calls Tryz.prog 127 #[.pointer (some ⟨B, 0, none⟩), .int .u8 c, argV x] w fun e w' => e = .returned (.int .i64 0) ∧ KeepW B w w' ∧ Wrt w' B o f b (putL cn ((x.2.2.size / 4 + 1 : Nat) : Int) zs (textW x.2.2)) (cn + ((x.2.2.size / 4 + 1 : Nat) : Int)) := by
  obtain ⟨kd, n, st⟩ := x
  unfold argV
  simp only at *
  have hBl := hW.lt
  have hlen := hW.len
  have hRm := fun w => room_any st w hs
  have hW1 := hW.below ((Below.refl _ w).alloc (Nat.le_refl _) (.cells #[.int .u8 kd, .int .u32 n, .string st] 61))
  have hb1 : Below w.heap.size w (w.alloc (.cells #[.int .u8 kd, .int .u32 n, .string st] 61)) := (Below.refl _ w).alloc (Nat.le_refl _) _
  have hl1 : w.heap.size < (w.alloc (.cells #[.int .u8 kd, .int .u32 n, .string st] 61)).heap.size := by simp
  have hS := fun i => (one_block (alloc_new w #[.int .u8 kd, .int .u32 n, .string st] 61)).1 i
  by_cases hl : st.size / 4 + 1 ≤ 65535
  · have hO := fun w => ofText_ok st w h hl
    have hT := textW_len st
    clear h
    obtain ⟨m, hm⟩ : ∃ m, m = st.size / 4 + 1 := ⟨_, rfl⟩
    rw [← hm] at hT hl hc ⊢
    simp only [← hm] at hO hRm
    have HM : Hid (m = st.size / 4 + 1) := hm
    clear hm
    obtain ⟨zs', hz⟩ : ∃ z, z = putL cn (m : Int) zs (textW st) := ⟨_, rfl⟩
    rw [← hz]
    go_enter Tryz.func127, Tryz.ntmps127
    go_wp2_with fail
    generalize w.alloc (.cells #[.int .u8 kd, .int .u32 n, .string st] 61) = W at *
    refine (hO _).mono ?_
    rintro e w2 ⟨rfl, hown2, hb2⟩
    have hS2 : w2.cell? ⟨w.heap.size, 2, none⟩ = some (.string st) := (hb2.cell (p := ⟨w.heap.size, 2, none⟩) hl1).trans (hS 2)
    have hW2 := hW1.below hb2
    have hA := add_any B o f b zs cn (m : Int) (some ⟨W.heap.size, 0, none⟩) m m (textW st) w2 hW2 (View.ofRow hown2 hT) (newAt_mk (by omega)) hT (Int.le_refl _) hc
    rw [← hz] at hA
    have hK := KeepW.of_below (hb1.trans (hb2.mono (by omega))) (show B ≤ w.heap.size by omega)
    clear hown2 hb2 hW1 hW2 hS hO hT hb1 hz
    go_wp2_with fail
    refine (hRm _).mono ?_
    rintro e w3 ⟨rfl, rfl⟩
    go_wp2_with fail
    refine hA.mono ?_
    rintro e w4 ⟨rfl, hk4, hW4⟩
    clear hA
    go_wp2
    go_ret
    exact ⟨rfl, hK.trans hk4, hW4⟩
  · have hO := fun w => ofText_large st w hs h (by omega)
    have e1 : putL cn ((st.size / 4 + 1 : Nat) : Int) zs (textW st) = putL cn ((st.size / 4 + 1 : Nat) : Int) zs [] := by
      rw [putL, putL, if_neg (by omega), if_neg (by omega)]
    rw [e1]
    clear h e1
    obtain ⟨m, hm⟩ : ∃ m, m = st.size / 4 + 1 := ⟨_, rfl⟩
    rw [← hm] at hl hc ⊢
    simp only [← hm] at hRm
    have HM : Hid (m = st.size / 4 + 1) := hm
    clear hm
    obtain ⟨zs', hz⟩ : ∃ z, z = putL cn (m : Int) zs [] := ⟨_, rfl⟩
    rw [← hz]
    go_enter Tryz.func127, Tryz.ntmps127
    go_wp2_with fail
    generalize w.alloc (.cells #[.int .u8 kd, .int .u32 n, .string st] 61) = W at *
    refine (hO _).mono ?_
    rintro e w2 ⟨rfl, rfl⟩
    have hS2 : W.cell? ⟨w.heap.size, 2, none⟩ = some (.string st) := hS 2
    have hA := add_any B o f b zs cn (m : Int) none 0 0 [] W hW1 view_nil (fun _ _ _ e => by cases e) rfl (by omega) hc
    rw [← hz] at hA
    have hK := KeepW.of_below hb1 (show B ≤ w.heap.size by omega)
    clear hS hO hW1 hb1 hz
    go_wp2_with fail
    refine (hRm _).mono ?_
    rintro e w3 ⟨rfl, rfl⟩
    go_wp2_with fail
    refine hA.mono ?_
    rintro e w4 ⟨rfl, hk4, hW4⟩
    clear hA
    go_wp2
    go_ret
    exact ⟨rfl, hK.trans hk4, hW4⟩

theorem empty_size (s : ByteArray) : s.toList.isEmpty = (s.size == 0) := by
  rw [ByteArray.toList_eq, Bool.eq_iff_iff, List.isEmpty_iff, ← List.length_eq_zero_iff, Array.length_toList, beq_iff_eq]
  rfl

/-- Whether an argument may stand where a letter is. -/
def mayStandB (c : Int) (x : ArgT) : Bool := !(c == 0) && (x.1 == kindI c) && (if x.1 = 3 then x.2.1 == 0 else x.2.2.size == 0)

theorem mayStand_any (c : Int) (x : ArgT) (w : World) :
    Calls Tryz.prog 83 #[.int .u8 c, argV x] w fun e w' => e = .returned (.bool (mayStandB c x)) ∧ Below w.heap.size w w' := by
  obtain ⟨kd, n, st⟩ := x
  unfold argV
  have hb1 : Below w.heap.size w (w.alloc (.cells #[.int .u8 kd, .int .u32 n, .string st] 61)) := (Below.refl _ w).alloc (Nat.le_refl _) _
  have hl1 : w.heap.size < (w.alloc (.cells #[.int .u8 kd, .int .u32 n, .string st] 61)).heap.size := by simp
  have hS := fun i => (one_block (alloc_new w #[.int .u8 kd, .int .u32 n, .string st] 61)).1 i
  have hS0 := hS 0
  have hS1 := hS 1
  have hS2 := hS 2
  change _ = some (Value.int .u8 kd) at hS0
  change _ = some (Value.int .u32 n) at hS1
  change _ = some (Value.string st) at hS2
  clear hS
  by_cases h0 : c = 0
  · subst h0
    have e1 : mayStandB 0 (kd, n, st) = false := by simp [mayStandB]
    rw [e1]
    go_enter Tryz.func83, Tryz.ntmps83
    go_wp2_with fail
    generalize w.alloc (.cells #[.int .u8 kd, .int .u32 n, .string st] 61) = W at *
    refine wp_region_class (C := Below W.heap.size W) (by kernel_rfl) (by kernel_rfl) (below_drew W) ?_
    have hne : Nonempty (InC (Below W.heap.size W)) := ⟨⟨W, Below.refl _ _⟩⟩
    repeat (go_big_quiet_step (fail))
    refine wpQuiet_nil ?_
    rintro _ ⟨s, rfl⟩
    have hfin := hb1.trans (s.ok.mono (by omega))
    clear hne
    go_wp2
    go_ret
    exact ⟨rfl, hfin⟩
  · have h0' : (c == 0) = false := by simpa using h0
    by_cases h1 : kd = kindI c
    · have e1 : mayStandB c (kd, n, st) = (if kd = 3 then n == 0 else st.size == 0) := by simp [mayStandB, h0', h1]
      rw [e1]
      have hKc := fun w => kind_any c w
      rw [← h1] at hKc
      clear h1 e1
      by_cases k3 : kd = 3
      · subst k3
        rw [if_pos rfl]
        go_enter Tryz.func83, Tryz.ntmps83
        go_wp2_with fail
        generalize w.alloc (.cells #[.int .u8 3, .int .u32 n, .string st] 61) = W at *
        have a0 := fun s : InC (Below W.heap.size W) => s.cell (p := ⟨w.heap.size, 0, none⟩) hl1 hS0
        have hK := fun s : InC (Below W.heap.size W) => Calls.inC_same s (hKc s.w)
        refine wp_region_class (C := Below W.heap.size W) (by kernel_rfl) (by kernel_rfl) (below_drew W) ?_
        have hne : Nonempty (InC (Below W.heap.size W)) := ⟨⟨W, Below.refl _ _⟩⟩
        repeat (go_big_quiet_step ((go_at_call 126; exact hK _)))
        refine wpQuiet_nil ?_
        rintro _ ⟨s, rfl⟩
        have hfin := hb1.trans (s.ok.mono (by omega))
        have k0 := s.cell (p := ⟨w.heap.size, 0, none⟩) hl1 hS0
        have k1 := s.cell (p := ⟨w.heap.size, 1, none⟩) hl1 hS1
        have k2 := s.cell (p := ⟨w.heap.size, 2, none⟩) hl1 hS2
        clear hne hK a0 hS0 hS1 hS2 hKc
        go_wp2
        go_ret
        exact ⟨rfl, hfin⟩
      · rw [if_neg k3]
        go_enter Tryz.func83, Tryz.ntmps83
        go_wp2_with fail
        generalize w.alloc (.cells #[.int .u8 kd, .int .u32 n, .string st] 61) = W at *
        have a0 := fun s : InC (Below W.heap.size W) => s.cell (p := ⟨w.heap.size, 0, none⟩) hl1 hS0
        have hK := fun s : InC (Below W.heap.size W) => Calls.inC_same s (hKc s.w)
        refine wp_region_class (C := Below W.heap.size W) (by kernel_rfl) (by kernel_rfl) (below_drew W) ?_
        have hne : Nonempty (InC (Below W.heap.size W)) := ⟨⟨W, Below.refl _ _⟩⟩
        repeat (go_big_quiet_step ((go_at_call 126; exact hK _)))
        refine wpQuiet_nil ?_
        rintro _ ⟨s, rfl⟩
        have hfin := hb1.trans (s.ok.mono (by omega))
        have k0 := s.cell (p := ⟨w.heap.size, 0, none⟩) hl1 hS0
        have k1 := s.cell (p := ⟨w.heap.size, 1, none⟩) hl1 hS1
        have k2 := s.cell (p := ⟨w.heap.size, 2, none⟩) hl1 hS2
        clear hne hK a0 hS0 hS1 hS2 hKc
        go_wp2
        go_ret
        refine ⟨?_, hfin⟩
        show Ending.returned (Value.bool st.toList.isEmpty) = _
        rw [empty_size]
    · have e1 : mayStandB c (kd, n, st) = false := by simp [mayStandB, h0', h1]
      rw [e1]
      have h1' : (kd == kindI c) = false := by simpa using h1
      go_enter Tryz.func83, Tryz.ntmps83
      go_wp2_with fail
      generalize w.alloc (.cells #[.int .u8 kd, .int .u32 n, .string st] 61) = W at *
      have a0 := fun s : InC (Below W.heap.size W) => s.cell (p := ⟨w.heap.size, 0, none⟩) hl1 hS0
      have hK := fun s : InC (Below W.heap.size W) => Calls.inC_same s (kind_any c s.w)
      generalize kindI c = kc at *
      refine wp_region_class (C := Below W.heap.size W) (by kernel_rfl) (by kernel_rfl) (below_drew W) ?_
      have hne : Nonempty (InC (Below W.heap.size W)) := ⟨⟨W, Below.refl _ _⟩⟩
      repeat (go_big_quiet_step ((go_at_call 126; exact hK _)))
      refine wpQuiet_nil ?_
      rintro _ ⟨s, rfl⟩
      have hfin := hb1.trans (s.ok.mono (by omega))
      clear hne hK a0
      go_wp2
      go_ret
      exact ⟨rfl, hfin⟩

theorem putter_any (B : Nat) (k : Int) (w : World) :
    Calls Tryz.prog 84 #[.pointer (some ⟨B, 0, none⟩), .int .u8 k] w fun e w' => e = .returned (if k = 3 then .func (.func 127) #[.pointer (some ⟨B, 0, none⟩)] #[] else .func (.func 125) #[.pointer (some ⟨B, 0, none⟩)] #[]) ∧ w = w' := by
  by_cases h : k = 3
  · subst h
    rw [if_pos rfl]
    go_enter Tryz.func84, Tryz.ntmps84
    go_wp2
    go_ret
    exact ⟨rfl, rfl⟩
  · rw [if_neg h]
    go_enter Tryz.func84, Tryz.ntmps84
    go_wp2
    go_ret
    exact ⟨rfl, rfl⟩

end Go.Proofs.YtonhnflilfjkbaaGreatDoor

/-
  Plain facts on instructions as words: what is wrong with an instruction, and its words.
-/
namespace Go.Proofs.YtonhnflilfjkbaaGreatDoor
open Go.RowKit
set_option linter.unusedVariables false
set_option linter.unusedSimpArgs false

/-- Is a byte of a text zero? -/
def nulS (s : ByteArray) : Bool := s.data.toList.any (· == 0)
theorem nulS_false {s : ByteArray} : nulS s = false ↔ NoNul s := by
  unfold nulS NoNul
  rw [List.any_eq_false]
  constructor
  · intro h k hk
    rw [nth_strI s k hk]
    intro e
    have h1 : s[k].toNat = 0 := by omega
    have h2 : s.data.toList[k]'(by rw [size_list]; exact hk) = 0 := UInt8.toNat_inj.1 h1
    exact h _ (List.getElem_mem (by rw [size_list]; exact hk)) (by simp [h2])
  · intro h x hx hx0
    obtain ⟨k, hk, rfl⟩ := List.mem_iff_getElem.1 hx
    have hk' : k < s.size := by rw [← size_list]; exact hk
    apply h k hk'
    rw [nth_strI s k hk']
    have e : s[k] = s.data.toList[k] := rfl
    rw [e, eq_of_beq hx0]
    rfl
theorem nulS_true {s : ByteArray} (h : nulS s = true) : ∃ k, k < s.size ∧ nth (strI s) k = 0 := by
  apply Classical.byContradiction
  intro hn
  have : NoNul s := fun k hk e => hn ⟨k, hk, e⟩
  rw [← nulS_false] at this
  rw [this] at h
  cases h
theorem nulS_empty : nulS ⟨#[]⟩ = false := rfl
theorem size_zero {s : ByteArray} (h : s.size = 0) : s = ⟨#[]⟩ := by
  have : s.data = #[] := Array.eq_empty_of_size_eq_zero h
  cases s; simp_all

/-- What is wrong with an argument. -/
def wrongA (c : Int) (x : ArgT) (b : Int) : Int := if mayStandB c x = false then 42 else if x.1 = 3 then (if nulS x.2.2 then 13 else 0) else faultW c x.2.1 b

/-- The first wrong argument's error. -/
def wrongL (f : Frm) (b : Int) : Nat → List ArgT → Int
  | _, [] => 0
  | k, x :: l => if wrongA (letterI f k) x b = 0 then wrongL f b (k + 1) l else wrongA (letterI f k) x b

/-- An argument's words. -/
def wordsA (x : ArgT) : List Int := if x.1 = 3 then textW x.2.2 else [x.2.1]
theorem wordsA_len (x : ArgT) : (wordsA x).length = if x.1 = 3 then x.2.2.size / 4 + 1 else 1 := by
  unfold wordsA
  split
  · exact textW_len _
  · rfl
def wordsL (l : List ArgT) : List Int := l.flatMap wordsA
/-- The ids ahead of the arguments. -/
def headW (f : Frm) (t r : Int) : List Int := (if f.2.1 then [t] else []) ++ (if f.2.2.1 then [r] else [])
/-- An instruction's words. -/
def rawL (f : Frm) (x : InstT) : List Int := headW f x.2.1 x.2.2.1 ++ wordsL x.2.2.2

/-- What is wrong with an instruction, its form being f. -/
def faultI (f : Frm) (x : InstT) (b : Int) : Int :=
  if idE f.2.1 x.2.1 b 40 ≠ 0 then idE f.2.1 x.2.1 b 40
  else if idE f.2.2.1 x.2.2.1 b 41 ≠ 0 then idE f.2.2.1 x.2.2.1 b 41
  else if wrongL f b 0 x.2.2.2 ≠ 0 then wrongL f b 0 x.2.2.2
  else if wholeN f x.2.2.2.length = false then 42
  else if 65535 < 1 + (rawL f x).length then 25 else 0
/-- What Raw answers: its error. -/
def rawE (x : InstT) (b : Int) : Int := if (lookF refT x.1).2 then faultI (lookF refT x.1).1 x b else 30
/-- Its words. -/
def rawWs (x : InstT) (b : Int) : List Int := if rawE x b = 0 then rawL (lookF refT x.1).1 x else []

theorem wrongL_zero {f : Frm} {b : Int} : ∀ {l : List ArgT} {k : Nat}, wrongL f b k l = 0 → ∀ j, j < l.length → wrongA (letterI f ((k + j : Nat) : Int)) (nthA l j) b = 0
  | [], _, _, j, hj => by simp at hj
  | x :: l, k, h, j, hj => by
    rw [wrongL] at h
    by_cases h0 : wrongA (letterI f k) x b = 0
    · rw [if_pos h0] at h
      cases j with
      | zero => exact h0
      | succ j =>
        have := wrongL_zero h j (by simpa using hj)
        rw [show k + (j + 1) = k + 1 + j by omega]
        exact this
    · rw [if_neg h0] at h; exact absurd h h0
/-- The first that is wrong. -/
theorem wrongL_first {f : Frm} {b : Int} : ∀ {l : List ArgT} {k j : Nat}, j < l.length → (∀ i, i < j → wrongA (letterI f ((k + i : Nat) : Int)) (nthA l i) b = 0) → wrongA (letterI f ((k + j : Nat) : Int)) (nthA l j) b ≠ 0 → wrongL f b k l = wrongA (letterI f ((k + j : Nat) : Int)) (nthA l j) b
  | [], _, j, hj, _, _ => by simp at hj
  | x :: l, k, 0, _, _, h => by
    rw [wrongL, if_neg (show ¬ wrongA (letterI f k) x b = 0 from h)]; rfl
  | x :: l, k, j + 1, hj, h0, h => by
    have h1 : wrongA (letterI f k) x b = 0 := h0 0 (by omega)
    rw [wrongL, if_pos h1]
    have e := wrongL_first (f := f) (b := b) (l := l) (k := k + 1) (j := j) (by simpa using hj) (fun i hi => by have := h0 (i + 1) (by omega); rw [show k + (i + 1) = k + 1 + i by omega] at this; exact this) (by rw [show k + (j + 1) = k + 1 + j by omega] at h; exact h)
    rw [e, show k + (j + 1) = k + 1 + j by omega]; rfl
theorem wrongL_none {f : Frm} {b : Int} : ∀ {l : List ArgT} {k : Nat}, (∀ i, i < l.length → wrongA (letterI f ((k + i : Nat) : Int)) (nthA l i) b = 0) → wrongL f b k l = 0
  | [], _, _ => rfl
  | x :: l, k, h => by
    have h1 : wrongA (letterI f k) x b = 0 := h 0 (by simp)
    rw [wrongL, if_pos h1]
    exact wrongL_none fun i hi => by have := h (i + 1) (by simpa using hi); rw [show k + (i + 1) = k + 1 + i by omega] at this; exact this

/-- An argument that is right stands, and has its letter's kind. -/
theorem wrongA_kind {c : Int} {x : ArgT} {b : Int} (h : wrongA c x b = 0) : c ≠ 0 ∧ x.1 = kindI c := by
  unfold wrongA at h
  split at h
  · cases h
  · rename_i hm
    simp [mayStandB] at hm
    exact ⟨hm.1, hm.2.1⟩

/-- Where all arguments stand, the kinds fit just if they are whole. -/
theorem fits_whole {f : Frm} {l : List ArgT} (h : ∀ i, i < l.length → letterI f (i : Int) ≠ 0 ∧ (nthA l i).1 = kindI (letterI f (i : Int))) : (fitsI true f (kindsL l)).2 = wholeN f l.length := by
  have hl : (kindsL l).length = l.length := by simp [kindsL]
  have hb : ∀ j, j < l.length → badK f (kindsL l) j = false := fun j hj => by
    obtain ⟨h1, h2⟩ := h j hj
    simp [badK, h1, kindsL_nth l j hj, h2]
  unfold fitsI
  rw [if_neg (by simp), hl, range_not _ hb]
  have e : (if wholeB f l.length = true then ((0 : Int), true) else ((l.length : Int), false)).2 = wholeB f l.length := by split <;> simp_all
  simp only [e]
  unfold wholeB wholeN
  rw [Bool.eq_iff_iff]
  by_cases h1 : (l.length : Int) < f.2.2.2.1.size
  · rw [if_pos h1]
    simp; constructor
    · omega
    · intro h2; omega
  · rw [if_neg h1]
    by_cases h2 : f.2.2.2.2.1.size = 0
    · rw [if_pos h2]
      have h3 : ¬ f.2.2.2.1.size < l.length := fun h3 => rest_of_letters (f := f) (zs := kindsL l) (fun j hj => hb j (by rw [← hl]; exact hj)) (by rw [hl]; exact h3) h2
      simp; omega
    · rw [if_neg h2]
      simp
      constructor
      · rintro (h3 | ⟨_, h3⟩)
        · rw [show (l.length : Int) - f.2.2.2.1.size = 0 by omega]; simp
        · exact h3
      · intro h3
        by_cases h4 : (l.length : Int) - f.2.2.2.1.size = 0
        · exact .inl h4
        · exact .inr ⟨by omega, h3⟩

/-- No row of Rest has a text. -/
def noText (f : Frm) : Bool := f.2.2.2.2.1.data.toList.all (fun x => x != 115)
theorem refT_noText : refT.all (fun p => noText p.2 && shortF p.2) = true := by decide +kernel
theorem look_noText (n : Int) : noText (lookF refT n).1 = true ∧ shortF (lookF refT n).1 = true := by
  by_cases h : (lookF refT n).2 = true
  · have := (List.all_eq_true.1 refT_noText) _ (lookF_true h)
    simpa using this
  · rw [(lookF_false (by simpa using h)).1]; exact ⟨rfl, rfl⟩
theorem text_fixed {f : Frm} (hf : noText f = true) {k : Nat} (h : kindI (letterI f (k : Int)) = 3) : k < f.2.2.2.1.size := by
  apply Classical.byContradiction
  intro hn
  have hk : kindI 0 ≠ 3 := by decide
  unfold letterI at h
  rw [if_neg (by omega), if_neg (by omega)] at h
  split at h
  · rename_i hm
    generalize hj : (((k : Int) - f.2.2.2.1.size) % f.2.2.2.2.1.size).toNat = j at h
    have hlt : j < f.2.2.2.2.1.size := by
      unfold mayB at hm
      by_cases h0 : f.2.2.2.2.1.size = 0
      · rw [if_pos h0] at hm; cases hm
      · have := Int.emod_lt_of_pos ((k : Int) - f.2.2.2.1.size) (show (0 : Int) < f.2.2.2.2.1.size by omega)
        have := Int.emod_nonneg ((k : Int) - f.2.2.2.1.size) (show (f.2.2.2.2.1.size : Int) ≠ 0 by omega)
        omega
    have h1 : sgn f.2.2.2.2.1 j = 115 := by
      unfold kindI at h
      split at h
      · cases h
      · split at h
        · cases h
        · split at h
          · assumption
          · split at h <;> cases h
    have hl : j < f.2.2.2.2.1.data.toList.length := by rw [size_list]; exact hlt
    have h2 := (List.all_eq_true.1 hf) (f.2.2.2.2.1.data.toList[j]) (List.getElem_mem hl)
    simp only [bne_iff_ne, ne_eq] at h2
    apply h2
    have h3 : (f.2.2.2.2.1.data.toList[j]).toNat = 115 := by
      unfold sgn at h1
      rw [List.getD, List.getElem?_eq_getElem hl] at h1
      simp only [Option.getD_some] at h1
      omega
    exact UInt8.toNat_inj.1 h3
  · exact hk h

theorem wordsL_take (l : List ArgT) (k : Nat) (h : k < l.length) : wordsL (l.take (k + 1)) = wordsL (l.take k) ++ wordsA (nthA l k) := by
  unfold wordsL
  rw [List.take_add_one, List.getElem?_eq_getElem h, nthA_lt _ _ h, Option.toList_some, List.flatMap_append]
  simp

end Go.Proofs.YtonhnflilfjkbaaGreatDoor

/-
  The text at the front of words, as a function of the words.
-/
namespace Go.Proofs.YtonhnflilfjkbaaGreatDoor
open Go.RowKit

end Go.Proofs.YtonhnflilfjkbaaGreatDoor

/-
  The instruction that words say, as a function of the words.
-/
namespace Go.Proofs.YtonhnflilfjkbaaGreatDoor
open Go.RowKit
set_option linter.unusedVariables false
set_option linter.unusedSimpArgs false

end Go.Proofs.YtonhnflilfjkbaaGreatDoor

/-
  What byteAt of the words package returns, for every word and every place from 0 to 3.
-/
namespace Go.Proofs.YtonhnflilfjkbaaGreatDoor
open Go.RowKit
set_option maxRecDepth 10000

end Go.Proofs.YtonhnflilfjkbaaGreatDoor

/-
  What textEnd of the words package returns: where the first byte 0 lies, or that there is none.
-/
namespace Go.Proofs.YtonhnflilfjkbaaGreatDoor
open Go.RowKit
set_option maxRecDepth 10000

end Go.Proofs.YtonhnflilfjkbaaGreatDoor

/-
  What Join of the words package returns, for every list of words whose bytes take at most 2^47 - 4096: their bytes, in new memory.
-/
namespace Go.Proofs.YtonhnflilfjkbaaGreatDoor
open Go.RowKit
set_option maxRecDepth 10000

end Go.Proofs.YtonhnflilfjkbaaGreatDoor

/-
  What Text of the words package returns, for every list of words: its error, or the text at their front and how many words it takes.
-/
namespace Go.Proofs.YtonhnflilfjkbaaGreatDoor
open Go.RowKit
set_option maxRecDepth 10000

end Go.Proofs.YtonhnflilfjkbaaGreatDoor

/-
  What Text of the words package returns, as one function of the words.
-/
namespace Go.Proofs.YtonhnflilfjkbaaGreatDoor
open Go.RowKit

end Go.Proofs.YtonhnflilfjkbaaGreatDoor

/-
  What slices.Clone of words returns: the words in new memory; nothing that was there has turned.
-/
namespace Go.Proofs.YtonhnflilfjkbaaGreatDoor
open Go.RowKit
set_option maxRecDepth 10000

theorem Clone.info : (Tryz.prog.info? 22).map (fun i => (i.zero, i.size, i.bytes)) = some (some (.int .u32 0), 1, 4) := by kernel_rfl

end Go.Proofs.YtonhnflilfjkbaaGreatDoor

/-
  What Byte of the document's answer returns: the k-th byte of words, for every k of theirs.
-/
namespace Go.Proofs.YtonhnflilfjkbaaGreatDoor
open Go.RowKit
set_option maxRecDepth 10000

end Go.Proofs.YtonhnflilfjkbaaGreatDoor

/-
  What Text of the document's answer returns, for every list of words: its error, or the text at their front and how many words it takes.
-/
namespace Go.Proofs.YtonhnflilfjkbaaGreatDoor
open Go.RowKit

theorem RefText.info : (Tryz.prog.info? 5).map (fun i => (i.zero, i.size, i.bytes)) = some (some (.int .u8 0), 1, 1) := by kernel_rfl

end Go.Proofs.YtonhnflilfjkbaaGreatDoor

/-
  Text of the words package and of the document's answer are the same, whatever the words.
-/
namespace Go.Proofs.YtonhnflilfjkbaaGreatDoor
open Go.RowKit
set_option maxRecDepth 10000

end Go.Proofs.YtonhnflilfjkbaaGreatDoor

/-
  What a reader's calls At, Left and take do: what they answer, and where the reader stands then.
-/
namespace Go.Proofs.YtonhnflilfjkbaaGreatDoor
open Go.RowKit
set_option maxRecDepth 10000

/-- A reader of the words zs, of which p were taken. -/
structure Rdr (W0 w : World) (gr ga n cw p : Nat) (zs : List Int) : Prop where
  rd : Rd 200 W0 w gr (.slice (some ⟨ga, 0, none⟩) n cw) p
  view : View .u32 W0 (some ⟨ga, 0, none⟩) zs
  apart : ga ≠ gr
  len : zs.length = n
  le : p ≤ n
  room : n ≤ cw
  small : 4 * n ≤ 140737488351232
  within : Within 4294967296 zs

theorem Rdr.words {W0 w : World} {gr ga n cw p : Nat} {zs : List Int} (h : Rdr W0 w gr ga n cw p zs) : View .u32 w (some ⟨ga, 0, none⟩) zs :=
  h.rd.view h.view (fun b off s e => by simp at e; have := h.apart; omega)

theorem Rdr.below {W0 w w' : World} {gr ga n cw p : Nat} {zs : List Int} (h : Rdr W0 w gr ga n cw p zs) (hb : Below w.heap.size w w') : Rdr W0 w' gr ga n cw p zs :=
  ⟨h.rd.below hb, h.view, h.apart, h.len, h.le, h.room, h.small, h.within⟩

theorem Rdr.set {W0 w : World} {gr ga n cw p : Nat} {zs : List Int} (h : Rdr W0 w gr ga n cw p zs) (q : Nat) (u : Int) (hu : u = (q : Int)) (hq : q ≤ n) : Rdr W0 (w.setCell ⟨gr, 1, none⟩ (.int .i64 u)) gr ga n cw q zs :=
  ⟨h.rd.set q u hu, h.view, h.apart, h.len, hq, h.room, h.small, h.within⟩

theorem Rdr.drew {W0 w : World} {gr ga n cw p : Nat} {zs : List Int} (h : Rdr W0 w gr ga n cw p zs) (q : Nat) : Rdr W0 (w.drewN q) gr ga n cw p zs := h.below (bel_drewN (Below.refl _ _) q)

end Go.Proofs.YtonhnflilfjkbaaGreatDoor

/-
  What a reader's calls Word, Text and Take answer, and where the reader stands then.
-/
namespace Go.Proofs.YtonhnflilfjkbaaGreatDoor
open Go.RowKit
set_option maxRecDepth 10000

end Go.Proofs.YtonhnflilfjkbaaGreatDoor

/-
  What the methods ownId and arg of the package code's reader answer.
-/
namespace Go.Proofs.YtonhnflilfjkbaaGreatDoor
open Go.RowKit
set_option linter.unusedVariables false
set_option linter.unusedSimpArgs false
set_option maxRecDepth 10000

/-- A reader's cells. -/
def rdrC (o : Int) (f : Frm) (b : Int) (gr : Nat) : Array Value := #[.int .u16 o, .string f.1, .bool f.2.1, .bool f.2.2.1, .string f.2.2.2.1, .string f.2.2.2.2.1, .int .i64 f.2.2.2.2.2.1, .int .u8 f.2.2.2.2.2.2, .int .u32 b, .pointer (some ⟨gr, 0, none⟩)]

/-- A reader at R: its form, its bound, and its reader of words. -/
structure RdS (w : World) (R : Nat) (o : Int) (f : Frm) (b : Int) (gr ga n cw p : Nat) (zs : List Int) : Prop where
  box : w.heap[R]? = some (.cells (rdrC o f b gr) 166 (0, 0))
  ne : R ≠ gr
  rd : Rdr w w gr ga n cw p zs

theorem Rdr.rebase {W0 w : World} {gr ga n cw p : Nat} {zs : List Int} (h : Rdr W0 w gr ga n cw p zs) : Rdr w w gr ga n cw p zs :=
  ⟨⟨World.grownBy.refl _ _, h.rd.box⟩, h.words, h.apart, h.len, h.le, h.room, h.small, h.within⟩
theorem RdS.step {w w' : World} {R : Nat} {o : Int} {f : Frm} {b : Int} {gr ga n cw p q : Nat} {zs : List Int} (h : RdS w R o f b gr ga n cw p zs) (h' : Rdr w w' gr ga n cw q zs) : RdS w' R o f b gr ga n cw q zs :=
  ⟨(h'.rd.grown.block R (Array.getElem?_eq_some_iff.1 h.box).1 (fun e => h.ne (by cases e; rfl))).trans h.box, h.ne, h'.rebase⟩
theorem RdS.below {w w' : World} {R : Nat} {o : Int} {f : Frm} {b : Int} {gr ga n cw p : Nat} {zs : List Int} (h : RdS w R o f b gr ga n cw p zs) (hb : Below w.heap.size w w') : RdS w' R o f b gr ga n cw p zs :=
  ⟨(hb.block R (Array.getElem?_eq_some_iff.1 h.box).1).trans h.box, h.ne, (h.rd.below hb).rebase⟩
theorem RdS.cells {w : World} {R : Nat} {o : Int} {f : Frm} {b : Int} {gr ga n cw p : Nat} {zs : List Int} (h : RdS w R o f b gr ga n cw p zs) :
    w.cell? ⟨R, 0, none⟩ = some (.int .u16 o) ∧ w.cell? ⟨R, 2, none⟩ = some (.bool f.2.1) ∧ w.cell? ⟨R, 3, none⟩ = some (.bool f.2.2.1) ∧ w.cell? ⟨R, 8, none⟩ = some (.int .u32 b) ∧ w.cell? ⟨R, 9, none⟩ = some (.pointer (some ⟨gr, 0, none⟩)) := by
  obtain ⟨hc, _⟩ := one_block h.box
  exact ⟨hc 0, hc 2, hc 3, hc 8, hc 9⟩
theorem RdS.lt {w : World} {R : Nat} {o : Int} {f : Frm} {b : Int} {gr ga n cw p : Nat} {zs : List Int} (h : RdS w R o f b gr ga n cw p zs) : R < w.heap.size ∧ gr < w.heap.size :=
  ⟨(Array.getElem?_eq_some_iff.1 h.box).1, h.rd.rd.lt⟩

theorem RdS.keep {w w' : World} {R : Nat} {o : Int} {f : Frm} {b : Int} {gr ga n cw p : Nat} {zs : List Int} {B : Nat} (h : RdS w R o f b gr ga n cw p zs) (hb : Below B w w') (hR : R < B) (hg : gr < B) (ha : 0 < n → ga < B) : RdS w' R o f b gr ga n cw p zs := by
  refine ⟨(hb.block R hR).trans h.box, h.ne, ⟨⟨World.grownBy.refl _ _, (hb.block gr hg).trans h.rd.rd.box⟩, ?_, h.rd.apart, h.rd.len, h.rd.le, h.rd.room, h.rd.small, h.rd.within⟩⟩
  intro j hj
  obtain ⟨b', off, e, hlt, hc⟩ := h.rd.words j hj
  cases e
  exact ⟨ga, 0, rfl, Nat.lt_of_lt_of_le hlt hb.size, (hb.cell (p := ⟨ga, 0 + j, none⟩) (ha (by have := h.rd.len; omega))).trans hc⟩
theorem RdS.ga {w : World} {R : Nat} {o : Int} {f : Frm} {b : Int} {gr ga n cw p : Nat} {zs : List Int} (h : RdS w R o f b gr ga n cw p zs) (hn : 0 < n) : ga < w.heap.size := by
  obtain ⟨b', off, e, hlt, _⟩ := h.rd.words 0 (by rw [h.rd.len]; exact hn)
  cases e
  exact hlt

end Go.Proofs.YtonhnflilfjkbaaGreatDoor

/-
  What the method args of the package code's reader answers.
-/
namespace Go.Proofs.YtonhnflilfjkbaaGreatDoor
open Go.RowKit
set_option linter.unusedVariables false
set_option linter.unusedSimpArgs false
set_option maxRecDepth 10000

theorem flat_arg : ∀ (l : List ArgT) (k j : Nat), k < l.length → j < 3 → (l.flatMap argC)[k * 3 + j]? = (argC (nthA l k))[j]?
  | x :: l, 0, j, _, hj => by
    rw [List.flatMap_cons, Nat.zero_mul, Nat.zero_add, List.getElem?_append_left (by simp [argC]; omega)]; rfl
  | x :: l, k + 1, j, hk, hj => by
    rw [List.flatMap_cons, List.getElem?_append_right (by simp [argC]; omega)]
    have := flat_arg l k j (by simpa using hk) hj
    rw [show (k + 1) * 3 + j - (argC x).length = k * 3 + j by simp [argC]; omega]
    exact this
/-- An owned row of arguments can be read. -/
theorem argsV_own {w : World} {B T n cap : Nat} {a : Option Addr} {l : List ArgT} (h : w.ownsRow B T 3 (.slice a n cap) n (l.flatMap argC)) (hl : l.length = n) : ArgsV w a l := by
  intro j hj
  rcases h.2 with ⟨hv, hn⟩ | ⟨g, cap', cur, hv, _, hg, _⟩
  · omega
  · cases hv
    have c0 := h.cellAt (j * 3 + 0) (by omega)
    have c1 := h.cellAt (j * 3 + 1) (by omega)
    have c2 := h.cellAt (j * 3 + 2) (by omega)
    rw [flat_arg l j 0 hj (by omega)] at c0
    rw [flat_arg l j 1 hj (by omega)] at c1
    rw [flat_arg l j 2 hj (by omega)] at c2
    exact ⟨g, 0, rfl, (Array.getElem?_eq_some_iff.1 hg).1, by rw [Nat.zero_add]; exact c0, by rw [Nat.zero_add]; exact c1, by rw [Nat.zero_add]; exact c2⟩

theorem Rargs.info : (Tryz.prog.info? 61).map (fun i => (i.zero, i.size, i.bytes)) = some (some (.agg #[.int .u8 0, .int .u32 0, .string ⟨#[]⟩]), 3, 24) := by kernel_rfl

end Go.Proofs.YtonhnflilfjkbaaGreatDoor
