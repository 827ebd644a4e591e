/-
  Texts laid together in one: GraphOnce, GraphTurned, Cut, GraphWalk0.
-/
import Derived.WalkSpells
import Derived.WalkMore
import Derived.OwnWalk
import Derived.Deep.MidRow
import Derived.Test.YtlcaedibmlidlaaGreatProg
import Derived.Test.YtlcaedibmlidlaaGreatB01
import Derived.Test.YtlcaedibmlidlaaGreatB02
import Derived.WalkKit
/-
  once of graph: nodes, each where it stands first, in new memory. Marks in a block of their own.
-/
namespace Go.Proofs.YtlcaedibmlidlaaGreat
open Go.RowKit
set_option linter.unusedVariables false
set_option linter.unusedSimpArgs false
set_option maxRecDepth 10000

def arr64 (m : Nat → Nat) : List Value := (List.range 64).map fun k => .int .u64 (m k : Int)
theorem arr64_len (m : Nat → Nat) : (arr64 m).length = 64 := by simp [arr64]
theorem arr64_get (m : Nat → Nat) (k : Nat) (h : k < 64) : (arr64 m)[k]? = some (.int .u64 (m k : Int)) := by simp [arr64, h]
theorem arr64_set (m : Nat → Nat) (i : Nat) (h : i < 4096) : (arr64 m).set (i / 64) (.int .u64 (setM m i (i / 64) : Int)) = arr64 (setM m i) := by
  apply List.ext_getElem?
  intro j
  by_cases hj : j < 64
  · rw [List.getElem?_set, arr64_get _ j hj, arr64_get _ j hj, arr64_len]
    by_cases e : i / 64 = j
    · subst e; simp [hj]
    · have : setM m i j = m j := by unfold setM; rw [if_neg (fun x => e x.symm)]
      simp [e, this]
  · rw [List.getElem?_eq_none (by rw [List.length_set, arr64_len]; omega), List.getElem?_eq_none (by rw [arr64_len]; omega)]
/-- Block b is marks. -/
def MkB (w : World) (b : Nat) (m : Nat → Nat) : Prop := w.heap[b]? = some (.cells (arr64 m).toArray 99 (0, 0)) ∧ ∀ k, m k < 18446744073709551616
theorem MkB.at {w : World} {b : Nat} {m : Nat → Nat} (h : MkB w b m) : MkAt w b 0 m := fun k hk => by
  refine ⟨?_, ?_, h.2 k⟩
  · rw [Nat.zero_add]; simp [World.cell?, h.1, arr64_get m k hk]
  · simp [World.frozen?, h.1]
theorem MkB.set {w : World} {b : Nat} {m : Nat → Nat} (h : MkB w b m) {i : Nat} (hi : i < 4096) (d : Nat) : MkB ((w.setCell ⟨b, 0 + i / 64, none⟩ (.int .u64 (setM m i (i / 64) : Int))).drewN d) b (setM m i) := by
  refine ⟨?_, fun k => setM_lt m i k (h.2 k)⟩
  show (w.setCell ⟨b, 0 + i / 64, none⟩ (.int .u64 (setM m i (i / 64) : Int))).heap[b]? = _
  rw [Nat.zero_add]
  simp only [World.setCell, Array.getElem?_modify]
  rw [if_pos trivial, h.1, ← arr64_set m i hi]
  simp
theorem MkB.below {w w' : World} {b : Nat} {m : Nat → Nat} (h : MkB w b m) (hb : Below w.heap.size w w') : MkB w' b m := ⟨(hb.block b (Array.getElem?_eq_some_iff.1 h.1).1).trans h.1, h.2⟩
theorem MkB.kept {w w' : World} {b : Nat} {m : Nat → Nat} {ob : Option Nat} (h : MkB w b m) (hg : w.grownBy w' ob) (hne : ob ≠ some b) : MkB w' b m := ⟨(hg.block b (Array.getElem?_eq_some_iff.1 h.1).1 (fun e => hne e.symm)).trans h.1, h.2⟩
theorem arr64_zero : (arr64 fun _ => 0).toArray = #[.int .u64 0, .int .u64 0, .int .u64 0, .int .u64 0, .int .u64 0, .int .u64 0, .int .u64 0, .int .u64 0, .int .u64 0, .int .u64 0, .int .u64 0, .int .u64 0, .int .u64 0, .int .u64 0, .int .u64 0, .int .u64 0, .int .u64 0, .int .u64 0, .int .u64 0, .int .u64 0, .int .u64 0, .int .u64 0, .int .u64 0, .int .u64 0, .int .u64 0, .int .u64 0, .int .u64 0, .int .u64 0, .int .u64 0, .int .u64 0, .int .u64 0, .int .u64 0, .int .u64 0, .int .u64 0, .int .u64 0, .int .u64 0, .int .u64 0, .int .u64 0, .int .u64 0, .int .u64 0, .int .u64 0, .int .u64 0, .int .u64 0, .int .u64 0, .int .u64 0, .int .u64 0, .int .u64 0, .int .u64 0, .int .u64 0, .int .u64 0, .int .u64 0, .int .u64 0, .int .u64 0, .int .u64 0, .int .u64 0, .int .u64 0, .int .u64 0, .int .u64 0, .int .u64 0, .int .u64 0, .int .u64 0, .int .u64 0, .int .u64 0, .int .u64 0] := rfl
theorem MkB.new (w : World) : MkB (w.alloc (.cells #[.int .u64 0, .int .u64 0, .int .u64 0, .int .u64 0, .int .u64 0, .int .u64 0, .int .u64 0, .int .u64 0, .int .u64 0, .int .u64 0, .int .u64 0, .int .u64 0, .int .u64 0, .int .u64 0, .int .u64 0, .int .u64 0, .int .u64 0, .int .u64 0, .int .u64 0, .int .u64 0, .int .u64 0, .int .u64 0, .int .u64 0, .int .u64 0, .int .u64 0, .int .u64 0, .int .u64 0, .int .u64 0, .int .u64 0, .int .u64 0, .int .u64 0, .int .u64 0, .int .u64 0, .int .u64 0, .int .u64 0, .int .u64 0, .int .u64 0, .int .u64 0, .int .u64 0, .int .u64 0, .int .u64 0, .int .u64 0, .int .u64 0, .int .u64 0, .int .u64 0, .int .u64 0, .int .u64 0, .int .u64 0, .int .u64 0, .int .u64 0, .int .u64 0, .int .u64 0, .int .u64 0, .int .u64 0, .int .u64 0, .int .u64 0, .int .u64 0, .int .u64 0, .int .u64 0, .int .u64 0, .int .u64 0, .int .u64 0, .int .u64 0, .int .u64 0] 99)) w.heap.size (fun _ => 0) := by
  refine ⟨?_, fun k => by show (0 : Nat) < _; omega⟩
  rw [arr64_zero]
  show (w.heap.push _)[w.heap.size]? = _
  rw [Array.getElem?_push_size]
theorem hasM_zero (i : Nat) : hasM (fun _ => 0) i = false := by simp [hasM]
/-- The marked nodes are these. -/
def Marked (m : Nat → Nat) (c : List Int) : Prop := ∀ i : Nat, i < 4096 → hasM m i = decide ((i : Int) ∈ c)
theorem marked_nil : Marked (fun _ => 0) [] := fun i _ => by simp [hasM_zero]
theorem Marked.add {m : Nat → Nat} {c : List Int} (h : Marked m c) (i : Nat) : Marked (setM m i) (c ++ [(i : Int)]) := fun j hj => by
  rw [hasM_setM, h j hj, Bool.eq_iff_iff]
  simp only [Bool.or_eq_true, decide_eq_true_eq, List.mem_append, List.mem_singleton]
  constructor
  · rintro (h | h)
    · exact .inr (by rw [h])
    · exact .inl h
  · rintro (h | h)
    · exact .inr h
    · exact .inl (by omega)

theorem measZ2 {k n : Nat} (h : k < n) : n - (intOf (.int .i64 ((k : Int) + 1))).toNat < n - (intOf (.int .i64 (k : Int))).toNat := by simp [intOf]; omega
/-- A row of nodes that is built beside marks. -/
structure OnceS (w wr : World) (B : Nat) (v : Value) (zs : List Int) (m : Nat → Nat) : Prop where
  own : wr.ownsRow (B + 1) 3 1 v zs.length (zs.map (Value.int .i64))
  marks : MkB wr B m
  marked : Marked m zs
  bel : Below w.heap.size w wr
  lt : w.heap.size = B
/-- A mark more. -/
theorem OnceS.mark {w wr : World} {B : Nat} {v : Value} {zs : List Int} {m : Nat → Nat} (h : OnceS w wr B v zs m) {x : Nat} (hx : x < 4096) (d : Nat) {w3 : World} (hd : w3 = (wr.setCell ⟨B, 0 + x / 64, none⟩ (.int .u64 (setM m x (x / 64) : Int))).drewN d) :
    w3.ownsRow (B + 1) 3 1 v zs.length (zs.map (Value.int .i64)) ∧ MkB w3 B (setM m x) ∧ Below w.heap.size w w3 ∧ B < w3.heap.size := by
  have hg : wr.grownBy w3 (some B) := by
    rw [hd]
    have := grown_setCell wr B (0 + x / 64) (.int .u64 (setM m x (x / 64) : Int))
    exact ⟨this.os, this.tape, this.output, this.size, this.block⟩
  have hm : MkB w3 B (setM m x) := by rw [hd]; exact h.marks.set hx d
  refine ⟨own_grown h.own hg (fun g e e2 => by have := (World.ownsRow.lt h.own g e2).1; cases e; omega), hm, h.bel.grown hg h.bel.size (fun k e => by cases e; have := h.lt; omega), (Array.getElem?_eq_some_iff.1 hm.1).1⟩
theorem OnceS.push {w w3 w5 : World} {B : Nat} {v v' : Value} {zs : List Int} {m : Nat → Nat} {x : Nat} (o : Obj) (hown : w3.ownsRow (B + 1) 3 1 v zs.length (zs.map (Value.int .i64))) (hm : MkB w3 B (setM m x)) (hb : Below w.heap.size w w3) (hl : w.heap.size = B) (hmk : Marked m zs) (hg : (w3.alloc o).grownBy w5 v.ownBlock) (h' : w5.ownsRow (B + 1) 3 1 v' (zs ++ [(x : Int)]).length ((zs ++ [(x : Int)]).map (Value.int .i64))) : OnceS w w5 B v' (zs ++ [(x : Int)]) (setM m x) := by
  have ha : Below w3.heap.size w3 (w3.alloc o) := (Below.refl _ _).alloc (Nat.le_refl _) _
  refine ⟨h', (hm.below ha).kept hg (fun e => by have := (World.ownsRow.lt hown B e).1; omega), hmk.add x, (hb.trans (ha.mono hb.size)).grown hg (by rw [World.size_alloc]; have := hb.size; omega) (fun k e => by have := (World.ownsRow.lt hown k e).1; omega), hl⟩

set_option maxHeartbeats 4000000 in
theorem once_any (a : Option Addr) (n c : Nat) (zs : List Int) (w : World) (hv : View .i64 w a zs) (hl : zs.length = n) (hn : 8 * n ≤ 140737488351232) (hr : ∀ x ∈ zs, 0 ≤ x ∧ x < 4096) :
    Calls Tryz.prog 94 #[.slice a n c] w fun e w' => ∃ v, e = .returned v ∧ w'.ownsRow w.heap.size 3 1 v (onceF zs).length ((onceF zs).map (Value.int .i64)) ∧ Below w.heap.size w w' := by
  obtain ⟨i0, hi, hz0, hz1, hz2⟩ := info_parts GrInts.info
  have HL := hide hl
  have HR := hide hr
  have HV := hide hv
  have HN := hide hn
  have hni : (8 : Int) * n ≤ 140737488351232 := by omega
  clear hl hr hv hn
  have HM := hide (MkB.new w)
  have HW0 : Hid ((w.alloc (.cells #[.int .u64 0, .int .u64 0, .int .u64 0, .int .u64 0, .int .u64 0, .int .u64 0, .int .u64 0, .int .u64 0, .int .u64 0, .int .u64 0, .int .u64 0, .int .u64 0, .int .u64 0, .int .u64 0, .int .u64 0, .int .u64 0, .int .u64 0, .int .u64 0, .int .u64 0, .int .u64 0, .int .u64 0, .int .u64 0, .int .u64 0, .int .u64 0, .int .u64 0, .int .u64 0, .int .u64 0, .int .u64 0, .int .u64 0, .int .u64 0, .int .u64 0, .int .u64 0, .int .u64 0, .int .u64 0, .int .u64 0, .int .u64 0, .int .u64 0, .int .u64 0, .int .u64 0, .int .u64 0, .int .u64 0, .int .u64 0, .int .u64 0, .int .u64 0, .int .u64 0, .int .u64 0, .int .u64 0, .int .u64 0, .int .u64 0, .int .u64 0, .int .u64 0, .int .u64 0, .int .u64 0, .int .u64 0, .int .u64 0, .int .u64 0, .int .u64 0, .int .u64 0, .int .u64 0, .int .u64 0, .int .u64 0, .int .u64 0, .int .u64 0, .int .u64 0] 99)).heap.size = w.heap.size + 1) := World.size_alloc _ _
  have HB0 : Hid (Below w.heap.size w (w.alloc (.cells #[.int .u64 0, .int .u64 0, .int .u64 0, .int .u64 0, .int .u64 0, .int .u64 0, .int .u64 0, .int .u64 0, .int .u64 0, .int .u64 0, .int .u64 0, .int .u64 0, .int .u64 0, .int .u64 0, .int .u64 0, .int .u64 0, .int .u64 0, .int .u64 0, .int .u64 0, .int .u64 0, .int .u64 0, .int .u64 0, .int .u64 0, .int .u64 0, .int .u64 0, .int .u64 0, .int .u64 0, .int .u64 0, .int .u64 0, .int .u64 0, .int .u64 0, .int .u64 0, .int .u64 0, .int .u64 0, .int .u64 0, .int .u64 0, .int .u64 0, .int .u64 0, .int .u64 0, .int .u64 0, .int .u64 0, .int .u64 0, .int .u64 0, .int .u64 0, .int .u64 0, .int .u64 0, .int .u64 0, .int .u64 0, .int .u64 0, .int .u64 0, .int .u64 0, .int .u64 0, .int .u64 0, .int .u64 0, .int .u64 0, .int .u64 0, .int .u64 0, .int .u64 0, .int .u64 0, .int .u64 0, .int .u64 0, .int .u64 0, .int .u64 0, .int .u64 0] 99))) := (Below.refl _ w).alloc (Nat.le_refl _) _
  have hHS := fun m (b : Nat) wx (i : Nat) (h : MkB wx b m) (hi : i < 4096) => marksHas_any b 0 m i wx h.at hi
  have hST := fun m (b : Nat) wx (i : Nat) (h : MkB wx b m) (hi : i < 4096) => marksSet_any b 0 m i wx h.at hi
  have HHS := hide hHS
  have HST := hide hST
  clear hHS hST
  rcases Decidable.em ((4096 : Int) < (n : Int)) with hm | hm
  all_goals
    go_enter Tryz.func94, Tryz.ntmps94
    go_wp2_with (at_make; first | (refine wpList_make_own _ rfl _ _ 26 rfl (w.heap.size + 1) 3 i0 (.int .i64 0) 1 Tryz.underlying26 hi hz0 hz1 _ _ _ 4096 rfl rfl (by rfl) (by rw [hz2]; omega) (by unfold maxLen; omega) (by simp) ?_) | (refine wpList_make_own _ rfl _ _ 26 rfl (w.heap.size + 1) 3 i0 (.int .i64 0) 1 Tryz.underlying26 hi hz0 hz1 _ _ _ n rfl rfl (by rfl) (by rw [hz2]; have := HN.out; omega) (by unfold maxLen; have := HN.out; omega) (by simp) ?_))
    intro w1 hown1 hgr1
    have hb1 : Below (w.heap.size + 1) (w.alloc (.cells #[.int .u64 0, .int .u64 0, .int .u64 0, .int .u64 0, .int .u64 0, .int .u64 0, .int .u64 0, .int .u64 0, .int .u64 0, .int .u64 0, .int .u64 0, .int .u64 0, .int .u64 0, .int .u64 0, .int .u64 0, .int .u64 0, .int .u64 0, .int .u64 0, .int .u64 0, .int .u64 0, .int .u64 0, .int .u64 0, .int .u64 0, .int .u64 0, .int .u64 0, .int .u64 0, .int .u64 0, .int .u64 0, .int .u64 0, .int .u64 0, .int .u64 0, .int .u64 0, .int .u64 0, .int .u64 0, .int .u64 0, .int .u64 0, .int .u64 0, .int .u64 0, .int .u64 0, .int .u64 0, .int .u64 0, .int .u64 0, .int .u64 0, .int .u64 0, .int .u64 0, .int .u64 0, .int .u64 0, .int .u64 0, .int .u64 0, .int .u64 0, .int .u64 0, .int .u64 0, .int .u64 0, .int .u64 0, .int .u64 0, .int .u64 0, .int .u64 0, .int .u64 0, .int .u64 0, .int .u64 0, .int .u64 0, .int .u64 0, .int .u64 0, .int .u64 0] 99)) w1 := (Below.refl _ _).grown hgr1 (by rw [HW0.out]; exact Nat.le_refl _) (by simp)
    have HS := hide (OnceS.mk (w := w) (B := w.heap.size) hown1 (HM.out.below (hb1.mono (by rw [HW0.out]; exact Nat.le_refl _))) marked_nil (HB0.out.trans (hb1.mono (by omega))) rfl)
    clear HM HB0 HW0 hb1 hgr1 hown1
    generalize (w.alloc (.cells _ 99)).heap.size = GG at *
    have hu : (0 : Int) ≤ (n : Int) := by omega
    clear hm hi hz0 hz1 hz2
    go_wp2_with fail
    go_loopw [4, 13] (fun v i wr => ∃ (k : Nat) (m : Nat → Nat), k ≤ n ∧ i = .int .i64 k ∧ OnceS w wr w.heap.size v (onceF (zs.take k)) m) (fun _ i _ => n - (intOf i).toNat)
    case atStart => exact ⟨0, _, Nat.zero_le _, rfl, HS.out⟩
    case round =>
      obtain ⟨k, m, hk, rfl, hS⟩ := hrel
      by_cases hlt : k < n
      · have hkl : k < zs.length := by rw [HL.out]; exact hlt
        have hb := hS.bel
        obtain ⟨b, off, rfl, hbl, hc⟩ := HV.out k hkl
        have hc' := (hb.cell (p := ⟨b, off + k, none⟩) hbl).trans hc
        have hx := HR.out (nth zs k) (by have : nth zs k = zs[k] := by simp [nth, List.getD, hkl]
                                         rw [this]; exact List.getElem_mem hkl)
        have HSN := hide (once_snoc zs k hkl)
        have HSL : Hid ((onceF (zs.take k)).length ≤ k) := by have := once_len (zs.take k); rw [List.length_take] at this; show _ ≤ _; omega
        obtain ⟨x, hxe⟩ := Int.eq_ofNat_of_zero_le hx.1
        rw [hxe] at hc' HSN hx
        have hx4 : x < 4096 := by omega
        obtain ⟨a4, c4, rfl⟩ := own_shapeG hS.own
        generalize onceF (zs.take k) = z1 at *
        have hMk := hS.marked x hx4
        have hH := HHS.out m w.heap.size wr x hS.marks hx4
        have hki : (k : Int) < (n : Int) := by omega
        have HLT := hide hlt
        have HSS := hide hS
        clear HS hb hc hxe hkl hbl hS hlt hk hx
        generalize hq : hasM m x = q at *
        cases q with
        | true =>
          have HIN : Hid (onceF (zs.take (k + 1)) = z1) := by
            show _ = _
            have := HSN.out
            unfold addN at this
            rw [if_pos (of_decide_eq_true hMk.symm)] at this
            exact this
          clear hMk hq HSN
          go_wp2_with fail
          refine hH.mono ?_
          rintro e w2 ⟨rfl, rfl⟩
          clear hH
          go_wp2_with fail
          exact ⟨⟨k + 1, m, HLT.out, by simp, by rw [HIN.out]; exact HSS.out⟩, measZ2 HLT.out⟩
        | false =>
          have HIN : Hid (onceF (zs.take (k + 1)) = z1 ++ [(x : Int)]) := by
            show _ = _
            have := HSN.out
            unfold addN at this
            rw [if_neg (of_decide_eq_false hMk.symm)] at this
            exact this
          have hSt := HST.out m w.heap.size wr x HSS.out.marks hx4
          clear hMk hq HSN
          go_wp2_with fail
          refine hH.mono ?_
          rintro e w2 ⟨rfl, rfl⟩
          clear hH
          go_wp2_with fail
          refine hSt.mono ?_
          rintro e w3 ⟨rfl, d, hd⟩
          obtain ⟨o3, m3, b3, l3⟩ := HSS.out.mark hx4 d hd
          have ho4 : (w3.alloc (.cells #[.int .i64 (x : Int)] 3)).ownsRow (w.heap.size + 1) 3 1 (.slice a4 z1.length c4) z1.length (z1.map (Value.int .i64)) := own_below o3 ((Below.refl _ _).alloc (Nat.le_refl _) _)
          have HO4 := hide ho4
          have HO3 := hide o3
          have HM3 := hide m3
          have HB3 := hide b3
          have HL3 := hide l3
          have HNL : Hid (z1.length < 17592186044415) := by show _ < _; have := HSL.out; have := HLT.out; have := HN.out; omega
          clear hSt hd o3 m3 b3 l3 ho4
          go_wp2_with (at_builtin; refine wpList_app1 rfl (.tmp 22) (.tmp 24) rfl (w.heap.size + 1) _ z1 (x : Int) rfl w3.heap.size rfl (allocNew _ _ rfl) HO4.out HNL.out (by simp; have := HL3.out; omega) ?_)
          intro g cap w5 ho5 hg5 _
          have hS5 := OnceS.push _ HO3.out HM3.out HB3.out rfl HSS.out.marked hg5 (by simpa using ho5)
          have HS5 := hide hS5
          clear ho5 hg5 hS5 HO4 HO3 HM3 HB3 HL3
          go_wp2_with fail
          exact ⟨⟨k + 1, _, HLT.out, by simp, by rw [HIN.out]; exact HS5.out⟩, measZ2 HLT.out⟩
      · have e : k = n := by omega
        have HF : Hid (onceF (zs.take k) = onceF zs) := by show _ = _; rw [e, ← HL.out, List.take_length]
        have HSS := hide hS
        subst e
        obtain ⟨a4, c4, rfl⟩ := own_shapeG hS.own
        clear hS HS hk
        go_wp2_with fail
        go_ret
        have h1 := HSS.out.own
        rw [HF.out] at h1
        exact ⟨_, rfl, by rw [HF.out]; exact own_mono h1 (by omega), HSS.out.bel⟩

end Go.Proofs.YtlcaedibmlidlaaGreat

/-
  turned of graph: the nodes from which edges lead to each node, in new memory.
-/
namespace Go.Proofs.YtlcaedibmlidlaaGreat
open Go.RowKit
set_option linter.unusedVariables false
set_option linter.unusedSimpArgs false
set_option maxRecDepth 10000

/-- A row of counts, each at most M. -/
def CntB (w wr : World) (n M : Nat) : Prop := Below w.heap.size w wr ∧ ∃ cs : List Int, cs.length = n ∧ (∀ x ∈ cs, 0 ≤ x ∧ x ≤ M) ∧ wr.ownsRow w.heap.size 3 1 (.slice (some ⟨w.heap.size, 0, none⟩) n n) n (cs.map (Value.int .i64))
theorem CntB.at {w wr : World} {n M : Nat} (h : CntB w wr n M) {t : Nat} (ht : t < n) : ∃ x : Int, wr.cell? ⟨w.heap.size, t, none⟩ = some (.int .i64 x) ∧ wr.frozen? ⟨w.heap.size, t, none⟩ = false ∧ 0 ≤ x ∧ x ≤ M ∧ CntB w (wr.setCell ⟨w.heap.size, t, none⟩ (.int .i64 (x + 1))) n (M + 1) := by
  obtain ⟨hb, cs, hl, hc, ho⟩ := h
  have hm := hc (nth cs t) (by have : nth cs t = cs[t] := by simp [nth, List.getD, hl, ht]
                               rw [this]; exact List.getElem_mem _)
  refine ⟨nth cs t, ?_, ho.frozenAt _, hm.1, hm.2, hb.grown (grown_setCell wr w.heap.size t _) hb.size (fun k e => by cases e; exact Nat.le_refl _), cs.set t (nth cs t + 1), by rw [List.length_set]; exact hl, fun x hx => ?_, ?_⟩
  · rw [ho.cellAt t (by omega)]; simp [nth, List.getD, hl, ht]
  · rcases List.mem_or_eq_of_mem_set hx with h | h
    · have := hc x h; omega
    · omega
  · have := own_setAt ho t (.int .i64 (nth cs t + 1))
    rw [List.map_set]; exact this
theorem CntB.mono {w wr : World} {n M M' : Nat} (h : CntB w wr n M) (hm : M ≤ M') : CntB w wr n M' := by
  obtain ⟨hb, cs, hl, hc, ho⟩ := h
  exact ⟨hb, cs, hl, fun x hx => ⟨(hc x hx).1, by have := (hc x hx).2; omega⟩, ho⟩
theorem CntB.below {w wr w' : World} {n M : Nat} (h : CntB w wr n M) (hb : Below wr.heap.size wr w') : CntB w w' n M := by
  obtain ⟨hb0, cs, hl, hc, ho⟩ := h
  exact ⟨hb0.trans (hb.mono hb0.size), cs, hl, hc, own_below ho hb⟩
theorem rep_set (n k : Nat) : (List.replicate n ([] : List Int)).set k [] = List.replicate n [] := by
  apply List.ext_getElem (by simp)
  intro i h1 h2
  simp [List.getElem_set]

set_option maxHeartbeats 8000000 in
theorem turned_any (a : Option Addr) (n c : Nat) (N : List (List Int)) (w : World) (hv : LV w a N) (hl : N.length = n) (hn : n ≤ 4096) (hE : Edges n N) (hD : ∀ j, (rowN N j).Nodup) :
    Calls Tryz.prog 95 #[.slice a n c] w fun e w' => ∃ v, e = .returned v ∧ OwnL w' w.heap.size v (aheadR N) ∧ Below w.heap.size w w' := by
  obtain ⟨i0, hi, hz0, hz1, hz2⟩ := info_parts GrInts.info
  obtain ⟨j0, hj, hy0, hy1, hy2⟩ := info_parts GrLists.info
  have HRL : Hid (∀ j, (rowN N j).length ≤ 4096) := fun j => Nat.le_trans (nodup_lenG n _ (hD j) (fun x hx => hE j x hx)) hn
  have HL := hide hl
  have HV := hide hv
  have HE := hide hE
  have HD := hide hD
  have HN := hide hn
  have hni : (n : Int) ≤ 4096 := by omega
  clear hl hv hE hD
  go_enter Tryz.func95, Tryz.ntmps95
  go_wp2_with (at_make; refine wpList_make_full _ rfl _ _ 26 rfl w.heap.size 3 i0 (.int .i64 0) 1 Tryz.underlying26 hi hz0 hz1 _ _ _ _ n rfl rfl (by rfl) (by rfl) (by rw [hz2]; omega) (by unfold maxLen; omega) (Nat.le_refl _) ?_)
  intro w1 hown1 hgr1
  have HC : Hid (CntB w w1 n 0) := ⟨(Below.refl _ w).grown hgr1 (Nat.le_refl _) (by simp), List.replicate n 0, by simp, fun x hx => by simp at hx; omega, by
    have := made_row (List.replicate n 0) (by simpa using hown1)
    rw [filled_zero] at this; exact this⟩
  clear hown1 hgr1
  go_wp2_with fail
  go_loopw [19] (fun i wr => ∃ k : Nat, k ≤ n ∧ i = .int .i64 k ∧ CntB w wr n (4096 * k)) (fun i _ => n - (intOf i).toNat)
  case atStart => exact ⟨0, Nat.zero_le _, rfl, HC.out⟩
  case round =>
    obtain ⟨k, hk, rfl, hS⟩ := hrel
    by_cases hlt : k < n
    · obtain ⟨b, off, aj, nj, cj, rfl, hb, hc, hcl, hcc, hvj⟩ := HV.out k (by rw [HL.out]; exact hlt)
      have hc' := (hS.1.cell (p := ⟨b, off + k, none⟩) hb).trans hc
      have hki : (k : Int) < (n : Int) := by omega
      have HCL := hide hcl
      have HVJ := hide hvj
      have HLT := hide hlt
      have HSS := hide hS
      have HNJ : Hid (nj ≤ 4096) := by show _ ≤ _; rw [← hcl]; exact HRL.out k
      have hnj : (nj : Int) ≤ 4096 := by have := HNJ.out; omega
      rename World => wo
      clear hS hcl hvj hlt hk hb hc hcc HC
      go_wp2_with fail
      go_loopw [25] (fun i wr => ∃ q : Nat, q ≤ nj ∧ i = .int .i64 q ∧ CntB w wr n (4096 * k + q)) (fun i _ => nj - (intOf i).toNat)
      case atStart => exact ⟨0, Nat.zero_le _, rfl, HSS.out⟩
      case round =>
        obtain ⟨q, hq, rfl, hS⟩ := hrel
        by_cases hlt : q < nj
        · obtain ⟨b2, off2, rfl, hb2, hc2⟩ := HVJ.out q (by rw [HCL.out]; exact hlt)
          have hcq := (hS.1.cell (p := ⟨b2, off2 + q, none⟩) hb2).trans hc2
          have hx := HE.out k (nth (rowN N k) q) (by have : nth (rowN N k) q = (rowN N k)[q]'(by rw [HCL.out]; exact hlt) := by simp [nth, List.getD, HCL.out, hlt]
                                                     rw [this]; exact List.getElem_mem _)
          obtain ⟨t, hte⟩ := Int.eq_ofNat_of_zero_le hx.1
          rw [hte] at hcq hx
          obtain ⟨x, hcx, hfx, hx0, hx1, hS'⟩ := hS.at (t := t) (by omega)
          have hti : (t : Int) < (n : Int) := hx.2
          have hqi : (q : Int) < (nj : Int) := by omega
          have hxb : x < 100000000 := by have := HLT.out; have := HN.out; have := HNJ.out; omega
          have HQ := hide hlt
          have HS' := hide (hS'.mono (M' := 4096 * k + (q + 1)) (by omega))
          clear hS hlt hq hb2 hc2 hx hte hS' hx1 hc'
          go_wp2_with fail
          exact ⟨⟨q + 1, HQ.out, by simp, HS'.out⟩, measZ2 HQ.out⟩
        · have HSE := hide (hS.mono (M' := 4096 * (k + 1)) (by have := HNJ.out; omega))
          obtain rfl : q = nj := by omega
          clear hS hq hc'
          go_wp2_with fail
          exact ⟨⟨k + 1, HLT.out, by simp, HSE.out⟩, measZ2 HLT.out⟩
    · have e : n = k := by omega
      subst e
      have HSS := hide hS
      clear hS HC hk
      rename World => wo
      have HBO : Hid (w.heap.size < wo.heap.size) := by
        obtain ⟨_, cs, _, _, ho⟩ := HSS.out
        exact (World.ownsRow.lt ho w.heap.size rfl).2
      go_wp2_with (at_make; refine wpList_make_full _ rfl _ _ 50 rfl wo.heap.size 26 j0 (.slice none 0 0) 1 Tryz.underlying50 hj hy0 hy1 _ _ _ _ n rfl rfl (by rfl) (by rfl) (by rw [hy2]; omega) (by unfold maxLen; omega) (Nat.le_refl _) ?_)
      intro w2 hown2 hgr2
      have hb2 : Below wo.heap.size wo w2 := (Below.refl _ wo).grown hgr2 (Nat.le_refl _) (by simp)
      have HC2 := hide (HSS.out.below hb2)
      have HO2 : Hid (OwnL w2 wo.heap.size (.slice (some ⟨wo.heap.size, 0, none⟩) n n) (List.replicate n [])) := OwnL.made (by simpa using hown2)
      have HP : Hid (w.heap.size ≤ wo.heap.size ∧ wo.heap.size ≤ w2.heap.size) := ⟨by have := HBO.out; omega, hb2.size⟩
      clear hown2 hgr2 HSS hb2
      generalize wo.heap.size = H at *
      go_wp2_with fail
      go_loopw [42] (fun i wr => ∃ k : Nat, k ≤ n ∧ i = .int .i64 k ∧ CntB w wr n (4096 * n) ∧ OwnL wr H (.slice (some ⟨H, 0, none⟩) n n) (List.replicate n []) ∧ H ≤ wr.heap.size) (fun i _ => n - (intOf i).toNat)
      case atStart => exact ⟨0, Nat.zero_le _, rfl, HC2.out, HO2.out, HP.out.2⟩
      case round =>
        obtain ⟨k, hk, rfl, hS, hO, hH⟩ := hrel
        by_cases hlt : k < n
        · obtain ⟨x, hcx, hfx, hx0, hx1, _⟩ := hS.at (t := k) hlt
          have hki : (k : Int) < (n : Int) := by omega
          obtain ⟨xn, rfl⟩ := Int.eq_ofNat_of_zero_le hx0
          have hxb : xn < 100000000 := by have := HN.out; omega
          have HS := hide hS
          have HO := hide hO
          have HLT := hide hlt
          have HHH := hide hH
          rename World => wq
          have hcH := OwnL.row (w := wq) (lo := H) (h := H) (c := n) (N := List.replicate n []) (by simpa using hO) (j := k) (by simpa using hlt)
          obtain ⟨uH, hcH, hfH, hltH, _⟩ := hcH
          clear hS hO hk hlt hH hx1 hx0 HC2 HO2
          go_wp2_with (at_make; refine wpList_make_own _ rfl _ _ 26 rfl wq.heap.size 3 i0 (.int .i64 0) 1 Tryz.underlying26 hi hz0 hz1 _ _ _ xn rfl rfl (by rfl) (by rw [hz2]; omega) (by unfold maxLen; omega) (Nat.le_refl _) ?_)
          intro w3 hown3 hgr3
          have hb3 : Below wq.heap.size wq w3 := (Below.refl _ wq).grown hgr3 (Nat.le_refl _) (by simp)
          obtain ⟨hO3, ⟨u3, hu3⟩, hf3, _⟩ := OwnL.put (W := wq) (w := w3) (lo := H) (h := H) (c := n) (N := List.replicate n []) (by simpa using HO.out) hb3 (j := k) (by simpa using HLT.out) (v := .slice (some ⟨wq.heap.size, 0, none⟩) 0 xn) (l := []) HHH.out hown3
          rw [rep_set] at hO3
          have hO3' : OwnL (w3.setCell ⟨H, k, none⟩ (.slice (some ⟨wq.heap.size, 0, none⟩) 0 xn)) H (.slice (some ⟨H, 0, none⟩) n n) (List.replicate n []) := by simpa using hO3
          have HO3 := hide hO3'
          have hC3 := HS.out.below hb3
          have HC3 : Hid (CntB w (w3.setCell ⟨H, k, none⟩ (.slice (some ⟨wq.heap.size, 0, none⟩) 0 xn)) n (4096 * n)) := by
            obtain ⟨hb0, cs, hl, hc, ho⟩ := hC3
            have hg := grown_setCell w3 H k (.slice (some ⟨wq.heap.size, 0, none⟩) 0 xn)
            exact ⟨hb0.grown hg hb0.size (fun q e => by cases e; exact HP.out.1), cs, hl, hc, own_grown ho hg (fun g e e2 => by cases e; have : Value.ownBlock (.slice (some ⟨w.heap.size, 0, none⟩) n n) = some w.heap.size := rfl; rw [this] at e2; cases e2; have := HBO.out; omega)⟩
          have HH3 : Hid (H ≤ (w3.setCell ⟨H, k, none⟩ (.slice (some ⟨wq.heap.size, 0, none⟩) 0 xn)).heap.size) := by show _ ≤ _; rw [World.size_setCell]; exact Nat.le_trans HHH.out hb3.size
          clear hO3 hO3' hC3 hown3 hgr3 hb3
          go_wp2_with fail
          exact ⟨⟨k + 1, HLT.out, by simp, HC3.out, HO3.out, HH3.out⟩, measZ2 HLT.out⟩
        · have e : n = k := by omega
          subst e
          have HLM : Hid (List.replicate n [] = aheadQ N 0 0) := by show _ = _; rw [aheadQ_start, HL.out]
          rw [HLM.out] at hO
          have HO4 := hide hO
          have HB4 := hide hS.1
          have HH4 := hide hH
          clear hS hO hH hk HC2 HO2 HLM
          rename World => ws
          go_wp2_with fail
          go_loopw [56] (fun i wr => ∃ k : Nat, k ≤ n ∧ i = .int .i64 k ∧ Below w.heap.size w wr ∧ OwnL wr H (.slice (some ⟨H, 0, none⟩) n n) (aheadQ N k 0) ∧ H ≤ wr.heap.size) (fun i _ => n - (intOf i).toNat)
          case atStart => exact ⟨0, Nat.zero_le _, rfl, HB4.out, HO4.out, HH4.out⟩
          case round =>
            obtain ⟨k, hk, rfl, hB, hO, hH⟩ := hrel
            by_cases hlt : k < n
            · obtain ⟨b, off, aj, nj, cj, rfl, hb, hc, hcl, hcc, hvj⟩ := HV.out k (by rw [HL.out]; exact hlt)
              have hc' := (hB.cell (p := ⟨b, off + k, none⟩) hb).trans hc
              have hki : (k : Int) < (n : Int) := by omega
              have HCL := hide hcl
              have HVJ := hide hvj
              have HLT := hide hlt
              have HB5 := hide hB
              have HO5 := hide hO
              have HH5 := hide hH
              have HNJ : Hid (nj ≤ 4096) := by show _ ≤ _; rw [← hcl]; exact HRL.out k
              have hnj : (nj : Int) ≤ 4096 := by have := HNJ.out; omega
              rename World => wt
              clear hB hO hH hcl hvj hlt hk hb hc hcc HO4 HB4 HH4
              go_wp2_with fail
              go_loopw [63] (fun i wr => ∃ q : Nat, q ≤ nj ∧ i = .int .i64 q ∧ Below w.heap.size w wr ∧ OwnL wr H (.slice (some ⟨H, 0, none⟩) n n) (aheadQ N k q) ∧ H ≤ wr.heap.size) (fun i _ => nj - (intOf i).toNat)
              case atStart => exact ⟨0, Nat.zero_le _, rfl, HB5.out, HO5.out, HH5.out⟩
              case round =>
                obtain ⟨q, hq, rfl, hB, hO, hH⟩ := hrel
                by_cases hlt : q < nj
                · obtain ⟨b2, off2, rfl, hb2, hc2⟩ := HVJ.out q (by rw [HCL.out]; exact hlt)
                  have hcq := (hB.cell (p := ⟨b2, off2 + q, none⟩) hb2).trans hc2
                  have hx := HE.out k (nth (rowN N k) q) (by have : nth (rowN N k) q = (rowN N k)[q]'(by rw [HCL.out]; exact hlt) := by simp [nth, List.getD, HCL.out, hlt]
                                                             rw [this]; exact List.getElem_mem _)
                  obtain ⟨t, hte⟩ := Int.eq_ofNat_of_zero_le hx.1
                  have HSTEP := hide (aheadQ_step N k q t (HD.out k) (by rw [HCL.out]; exact hlt) hte (by rw [HL.out]; have := hx.2; omega))
                  rw [hte] at hcq hx
                  have hti : (t : Int) < (n : Int) := hx.2
                  have htn : t < n := by omega
                  have hqi : (q : Int) < (nj : Int) := by omega
                  rename World => wz
                  have hbA : Below wz.heap.size wz (wz.alloc (.cells #[.int .i64 (k : Int)] 3)) := (Below.refl _ _).alloc (Nat.le_refl _) _
                  have hql : (aheadQ N k q).length = n := by rw [aheadQ_len]; exact HL.out
                  have hOA : OwnL (wz.alloc (.cells #[.int .i64 (k : Int)] 3)) H (.slice (some ⟨H, 0, none⟩) (aheadQ N k q).length n) (aheadQ N k q) := by rw [hql]; exact hO.below hbA
                  have hOz : OwnL wz H (.slice (some ⟨H, 0, none⟩) (aheadQ N k q).length n) (aheadQ N k q) := by rw [hql]; exact hO
                  have hHz : H < wz.heap.size := by
                    obtain ⟨_, _, _, h3, _⟩ := OwnL.row hOz (j := t) (by rw [hql]; exact htn)
                    exact h3
                  obtain ⟨v, hcv, hfv, _, _, hrow, hput⟩ := OwnL.row hOA (j := t) (by rw [hql]; exact htn)
                  have hcz : wz.cell? ⟨H, t, none⟩ = some v := (hbA.cell (p := ⟨H, t, none⟩) hHz).symm.trans hcv
                  have hrl : (rowN (aheadQ N k q) t).length ≤ 4097 := by
                    rw [aheadQ_row N k q t (by rw [HL.out]; exact htn), List.length_append]
                    have h1 := aheadT_len N k (t : Int)
                    have h2 : (if (t : Int) ∈ (rowN N k).take q then [(k : Int)] else []).length ≤ 1 := by split <;> simp
                    have := HLT.out
                    omega
                  obtain ⟨a4, c4, rfl⟩ := own_shapeG hrow
                  rw [hql] at hput
                  generalize rowN (aheadQ N k q) t = row at *
                  have HROW := hide hrow
                  have HPUT := hide hput
                  have HRL2 := hide hrl
                  have HQ := hide hlt
                  have HBZ := hide (hB.trans (hbA.mono hB.size))
                  have HHZ := hide hHz
                  have HWZ := hide (hB.size)
                  clear hB hO hH hlt hq hb2 hc2 hx hte hOA hOz hbA hcv hfv hrow hput hrl htn hql hc' HO5 HB5 HH5
                  go_wp2_with (at_builtin; refine wpList_app1 rfl (.tmp 72) (.tmp 74) rfl H _ row (k : Int) rfl wz.heap.size rfl (allocNew _ _ rfl) HROW.out (by have := HRL2.out; omega) (by simp; have := HHZ.out; omega) ?_)
                  intro g cap w5 ho5 hg5 hat
                  have hp := HPUT.out w5 (.slice (some ⟨g, 0, none⟩) (row.length + 1) cap) (row ++ [(k : Int)]) hg5 (by
                    rcases hat with h | h
                    · exact .inl h.symm
                    · exact .inr fun g' e => by cases e; rw [h]; simp) (by simpa using ho5)
                  obtain ⟨hO6, ⟨u6, hu6⟩, hf6⟩ := hp
                  rw [HSTEP.out] at hO6
                  have HO6 := hide hO6
                  have hB6 : Below w.heap.size w w5 := HBZ.out.grown hg5 HBZ.out.size (fun i e => by have := (World.ownsRow.lt HROW.out i e).1; have := HP.out.1; omega)
                  have HB6 : Hid (Below w.heap.size w (w5.setCell ⟨H, t, none⟩ (.slice (some ⟨g, 0, none⟩) (row.length + 1) cap))) := hB6.grown (grown_setCell w5 H t _) hB6.size (fun i e => by cases e; exact HP.out.1)
                  have HH6 : Hid (H ≤ (w5.setCell ⟨H, t, none⟩ (.slice (some ⟨g, 0, none⟩) (row.length + 1) cap)).heap.size) := by
                    show _ ≤ _
                    rw [World.size_setCell]
                    have := hg5.size
                    rw [World.size_alloc] at this
                    have := HHZ.out
                    omega
                  clear hO6 hB6 ho5 hg5 hat HPUT HROW
                  go_wp2_with fail
                  exact ⟨⟨q + 1, HQ.out, by simp, HB6.out, HO6.out, HH6.out⟩, measZ2 HQ.out⟩
                · have e : nj = q := by omega
                  subst e
                  have HE7 : Hid (aheadQ N k nj = aheadQ N (k + 1) 0) := by show _ = _; rw [← HCL.out, aheadQ_end]
                  rw [HE7.out] at hO
                  have HO7 := hide hO
                  have HB7 := hide hB
                  have HH7 := hide hH
                  clear hO hB hH hq hc' HO5 HB5 HH5 HE7
                  go_wp2_with fail
                  exact ⟨⟨k + 1, HLT.out, by simp, HB7.out, HO7.out, HH7.out⟩, measZ2 HLT.out⟩
            · have e : n = k := by omega
              subst e
              have HW : Hid (aheadQ N n 0 = aheadR N) := by show _ = _; rw [← HL.out, aheadQ_whole]
              rw [HW.out] at hO
              have HO7 := hide (hO.mono HP.out.1)
              have HB7 := hide hB
              clear hO hB hH hk HO4 HB4 HH4
              go_wp2_with fail
              go_ret
              exact ⟨_, rfl, HO7.out, HB7.out⟩

end Go.Proofs.YtlcaedibmlidlaaGreat

/-
  A long function cut at one of its regions: what holds there, and the rest by itself.
-/
namespace Go.Proofs.YtlcaedibmlidlaaGreat
open Go

/-- The first region of a piece of code. -/
def headR : Code → Nat
  | .region k _ _ => k
  | .seq a _ => headR a
  | _ => 99999
/-- The code from a region on. -/
def dropR (n : Nat) : Code → Code
  | .seq a b => match headR a == n with
    | true => .seq a b
    | false => dropR n b
  | c => c
end Go.Proofs.YtlcaedibmlidlaaGreat

/-
  A graph in memory while it is walked: its block, the row of nodes that the walk came to, and the row of those that it left.
-/
namespace Go.Proofs.YtlcaedibmlidlaaGreat
open Go.RowKit
set_option linter.unusedVariables false
set_option linter.unusedSimpArgs false
set_option maxRecDepth 10000

/-- A graph's cells. -/
def gC (nv av : Value) (m : Nat → Nat) (cv ov : Value) : List Value := nv :: av :: (arr64 m ++ [cv, ov])
theorem gC_m (nv av : Value) (m : Nat → Nat) (cv ov : Value) (k : Nat) (h : k < 64) : (gC nv av m cv ov)[2 + k]? = some (.int .u64 (m k : Int)) := by
  have e : (gC nv av m cv ov)[2 + k]? = (arr64 m ++ [cv, ov])[k]? := by rw [Nat.add_comm]; rfl
  rw [e, List.getElem?_append_left (by rw [arr64_len]; exact h), arr64_get m k h]
theorem gC_c (nv av : Value) (m : Nat → Nat) (cv ov : Value) : (gC nv av m cv ov)[66]? = some cv := by
  have e : (gC nv av m cv ov)[66]? = (arr64 m ++ [cv, ov])[64]? := rfl
  rw [e, List.getElem?_append_right (by rw [arr64_len]; omega), arr64_len]; rfl
theorem gC_o (nv av : Value) (m : Nat → Nat) (cv ov : Value) : (gC nv av m cv ov)[67]? = some ov := by
  have e : (gC nv av m cv ov)[67]? = (arr64 m ++ [cv, ov])[65]? := rfl
  rw [e, List.getElem?_append_right (by rw [arr64_len]; omega), arr64_len]; rfl
theorem gC_setM (nv av : Value) (m : Nat → Nat) (cv ov : Value) (i : Nat) (h : i < 4096) : (gC nv av m cv ov).set (2 + i / 64) (.int .u64 (setM m i (i / 64) : Int)) = gC nv av (setM m i) cv ov := by
  have e : (gC nv av m cv ov).set (2 + i / 64) (.int .u64 (setM m i (i / 64) : Int)) = nv :: av :: ((arr64 m ++ [cv, ov]).set (i / 64) (.int .u64 (setM m i (i / 64) : Int))) := by rw [Nat.add_comm]; rfl
  rw [e, List.set_append_left _ _ (by rw [arr64_len]; omega), arr64_set m i h]; rfl
theorem gC_setC (nv av : Value) (m : Nat → Nat) (cv ov v : Value) : (gC nv av m cv ov).set 66 v = gC nv av m v ov := by
  have e : (gC nv av m cv ov).set 66 v = nv :: av :: ((arr64 m ++ [cv, ov]).set 64 v) := rfl
  rw [e, List.set_append_right _ _ (by rw [arr64_len]; omega), arr64_len]; rfl
theorem gC_setO (nv av : Value) (m : Nat → Nat) (cv ov v : Value) : (gC nv av m cv ov).set 67 v = gC nv av m cv v := by
  have e : (gC nv av m cv ov).set 67 v = nv :: av :: ((arr64 m ++ [cv, ov]).set 65 v) := rfl
  rw [e, List.set_append_right _ _ (by rw [arr64_len]; omega), arr64_len]; rfl
theorem gC_setA (nv av : Value) (m : Nat → Nat) (cv ov v : Value) : (gC nv av m cv ov).set 1 v = gC nv v m cv ov := rfl

/-- Block p is a graph. -/
def GrB (w : World) (p : Nat) (nv av : Value) (m : Nat → Nat) (cv ov : Value) : Prop := w.heap[p]? = some (.cells (gC nv av m cv ov).toArray 101 (0, 0)) ∧ ∀ k, m k < 18446744073709551616
theorem GrB.cell {w : World} {p : Nat} {nv av : Value} {m : Nat → Nat} {cv ov : Value} (h : GrB w p nv av m cv ov) (k : Nat) : w.cell? ⟨p, k, none⟩ = (gC nv av m cv ov)[k]? := by simp [World.cell?, h.1]
theorem GrB.frozen {w : World} {p : Nat} {nv av : Value} {m : Nat → Nat} {cv ov : Value} (h : GrB w p nv av m cv ov) (k : Nat) : w.frozen? ⟨p, k, none⟩ = false := by simp [World.frozen?, h.1]
theorem GrB.lt {w : World} {p : Nat} {nv av : Value} {m : Nat → Nat} {cv ov : Value} (h : GrB w p nv av m cv ov) : p < w.heap.size := (Array.getElem?_eq_some_iff.1 h.1).1
theorem GrB.mkAt {w : World} {p : Nat} {nv av : Value} {m : Nat → Nat} {cv ov : Value} (h : GrB w p nv av m cv ov) : MkAt w p 2 m := fun k hk => ⟨by rw [h.cell, gC_m _ _ _ _ _ k hk], h.frozen _, h.2 k⟩
theorem GrB.other {w w' : World} {p : Nat} {nv av : Value} {m : Nat → Nat} {cv ov : Value} (h : GrB w p nv av m cv ov) (he : w'.heap[p]? = w.heap[p]?) : GrB w' p nv av m cv ov := ⟨he.trans h.1, h.2⟩
theorem GrB.below {w w' : World} {p : Nat} {nv av : Value} {m : Nat → Nat} {cv ov : Value} (h : GrB w p nv av m cv ov) (hb : Below w.heap.size w w') : GrB w' p nv av m cv ov := h.other (hb.block p h.lt)
theorem GrB.set {w : World} {p : Nat} {nv av : Value} {m : Nat → Nat} {cv ov : Value} (h : GrB w p nv av m cv ov) (k : Nat) (v : Value) : (w.setCell ⟨p, k, none⟩ v).heap[p]? = some (.cells ((gC nv av m cv ov).set k v).toArray 101 (0, 0)) := by
  simp only [World.setCell, Array.getElem?_modify]
  rw [if_pos trivial, h.1]
  simp
theorem GrB.setM {w : World} {p : Nat} {nv av : Value} {m : Nat → Nat} {cv ov : Value} (h : GrB w p nv av m cv ov) {i : Nat} (hi : i < 4096) (d : Nat) : GrB ((w.setCell ⟨p, 2 + i / 64, none⟩ (.int .u64 (setM m i (i / 64) : Int))).drewN d) p nv av (Go.Proofs.YtlcaedibmlidlaaGreat.setM m i) cv ov := by
  refine ⟨?_, fun k => setM_lt m i k (h.2 k)⟩
  have := h.set (2 + i / 64) (.int .u64 (Go.Proofs.YtlcaedibmlidlaaGreat.setM m i (i / 64) : Int))
  rw [gC_setM _ _ _ _ _ i hi] at this
  exact this

/-- The walk's memory, since the world W0. -/
structure WkS (W0 : World) (p : Nat) (nv av : Value) (w : World) (m : Nat → Nat) (cv ov : Value) (mc c l : List Int) : Prop where
  blk : GrB w p nv av m cv ov
  marked : Marked m mc
  came : w.ownsRow W0.heap.size 3 1 cv c.length (c.map (Value.int .i64))
  left : w.ownsRow W0.heap.size 3 1 ov l.length (l.map (Value.int .i64))
  apart : ∀ g, cv.ownBlock = some g → ov.ownBlock ≠ some g
  grown : W0.grownBy w (some p)
  plt : p < W0.heap.size

theorem WkS.mark {W0 : World} {p : Nat} {nv av : Value} {w : World} {m : Nat → Nat} {cv ov : Value} {mc c l : List Int} (h : WkS W0 p nv av w m cv ov mc c l) {i : Nat} (hi : i < 4096) (d : Nat) {w3 : World} (hd : w3 = (w.setCell ⟨p, 2 + i / 64, none⟩ (.int .u64 (setM m i (i / 64) : Int))).drewN d) : WkS W0 p nv av w3 (setM m i) cv ov (mc ++ [(i : Int)]) c l := by
  have hg : w.grownBy w3 (some p) := by
    rw [hd]
    have := grown_setCell w p (2 + i / 64) (.int .u64 (setM m i (i / 64) : Int))
    exact ⟨this.os, this.tape, this.output, this.size, this.block⟩
  have hp := h.plt
  refine ⟨by rw [hd]; exact h.blk.setM hi d, h.marked.add i, own_grown h.came hg (fun g e e2 => by have := (World.ownsRow.lt h.came g e2).1; cases e; omega), own_grown h.left hg (fun g e e2 => by have := (World.ownsRow.lt h.left g e2).1; cases e; omega), h.apart, h.grown.trans hg, hp⟩
theorem WkS.below {W0 : World} {p : Nat} {nv av : Value} {w w' : World} {m : Nat → Nat} {cv ov : Value} {mc c l : List Int} (h : WkS W0 p nv av w m cv ov mc c l) (hb : Below w.heap.size w w') : WkS W0 p nv av w' m cv ov mc c l :=
  ⟨h.blk.below hb, h.marked, own_below h.came hb, own_below h.left hb, h.apart, h.grown.trans ⟨hb.os, hb.tape, hb.output, hb.size, fun k hk _ => hb.block k hk⟩, h.plt⟩
theorem WkS.pushC {W0 : World} {p : Nat} {nv av : Value} {w w5 : World} {m : Nat → Nat} {cv ov : Value} {mc c l : List Int} (h : WkS W0 p nv av w m cv ov mc c l) (i : Int) {g cap k : Nat} (hg : w.grownBy w5 cv.ownBlock) (hat : cv.ownBlock = some g ∨ g = w.heap.size) (ho : w5.ownsRow W0.heap.size 3 1 (.slice (some ⟨g, 0, none⟩) k cap) (c ++ [i]).length ((c ++ [i]).map (Value.int .i64))) : WkS W0 p nv av (w5.setCell ⟨p, 66, none⟩ (.slice (some ⟨g, 0, none⟩) k cap)) m (.slice (some ⟨g, 0, none⟩) k cap) ov mc (c ++ [i]) l := by
  have hp := h.plt
  have hne : ∀ j, cv.ownBlock = some j → W0.heap.size ≤ j := fun j e => (World.ownsRow.lt h.came j e).1
  have hb5 : GrB w5 p nv av m cv ov := h.blk.other (hg.block p h.blk.lt (fun e => by have := hne p e.symm; omega))
  have hs := hb5.set 66 (.slice (some ⟨g, 0, none⟩) k cap)
  rw [gC_setC] at hs
  have hl5 := own_grown h.left hg (fun j e => h.apart j e)
  refine ⟨⟨hs, h.blk.2⟩, h.marked, ownsRow_setCell_below ho (by simp; exact hp) _, ownsRow_setCell_below hl5 (by simp; exact hp) _, fun j e e2 => ?_, ?_, hp⟩
  · cases e
    rcases hat with h1 | h1
    · exact h.apart g h1 e2
    · have := (World.ownsRow.lt h.left g e2).2; omega
  · exact (h.grown.andThen hg (fun j e => .inl (hne j e))).trans (grown_setCell w5 p 66 _)
theorem WkS.pushL {W0 : World} {p : Nat} {nv av : Value} {w w5 : World} {m : Nat → Nat} {cv ov : Value} {mc c l : List Int} (h : WkS W0 p nv av w m cv ov mc c l) (i : Int) {g cap k : Nat} (hg : w.grownBy w5 ov.ownBlock) (hat : ov.ownBlock = some g ∨ g = w.heap.size) (ho : w5.ownsRow W0.heap.size 3 1 (.slice (some ⟨g, 0, none⟩) k cap) (l ++ [i]).length ((l ++ [i]).map (Value.int .i64))) : WkS W0 p nv av (w5.setCell ⟨p, 67, none⟩ (.slice (some ⟨g, 0, none⟩) k cap)) m cv (.slice (some ⟨g, 0, none⟩) k cap) mc c (l ++ [i]) := by
  have hp := h.plt
  have hne : ∀ j, ov.ownBlock = some j → W0.heap.size ≤ j := fun j e => (World.ownsRow.lt h.left j e).1
  have hb5 : GrB w5 p nv av m cv ov := h.blk.other (hg.block p h.blk.lt (fun e => by have := hne p e.symm; omega))
  have hs := hb5.set 67 (.slice (some ⟨g, 0, none⟩) k cap)
  rw [gC_setO] at hs
  have hl5 := own_grown h.came hg (fun j e e2 => h.apart j e2 e)
  refine ⟨⟨hs, h.blk.2⟩, h.marked, ownsRow_setCell_below hl5 (by simp; exact hp) _, ownsRow_setCell_below ho (by simp; exact hp) _, fun j e e2 => ?_, ?_, hp⟩
  · cases e2
    rcases hat with h1 | h1
    · exact h.apart g e h1
    · have := (World.ownsRow.lt h.came g e).2; omega
  · exact (h.grown.andThen hg (fun j e => .inl (hne j e))).trans (grown_setCell w5 p 67 _)
/-- What lay there but the graph stays. -/
theorem WkS.old {W0 : World} {p k : Nat} {nv av : Value} {w : World} {m : Nat → Nat} {cv ov : Value} {mc c l : List Int} {o : Obj} (h : WkS W0 p nv av w m cv ov mc c l) (hk : W0.heap[k]? = some o) (hne : k ≠ p) : w.heap[k]? = some o :=
  (h.grown.block k (Array.getElem?_eq_some_iff.1 hk).1 (fun e => hne (Option.some.inj e))).trans hk

/-- What the walk came to behind the first k edges of a node. -/
theorem dfsK_seg (N : List (List Int)) (n : Nat) (hE : Edges n N) (f : Nat) (i : Int) (s : WalkS) (hg : GoodC n s.1) (hi : i ∉ s.1) (h0 : 0 ≤ i) (h1 : i < n) (hl : n - s.1.length ≤ f + 1) (hls : s.2.length ≤ s.1.length) (k : Nat) : GoodC n (dfsK N f i s k).1 ∧ n - (dfsK N f i s k).1.length ≤ f ∧ (dfsK N f i s k).2.length ≤ (dfsK N f i s k).1.length := by
  obtain ⟨e, d, hs, _, _⟩ := (walk_all N n hE f).1 ((rowN N i.toNat).take k) (s.1 ++ [i], s.2) (hg.snoc hi h0 h1) (fun x hx => hE _ x (List.mem_of_mem_take hx)) (by simp; omega)
  have hc : (dfsK N f i s k).1 = (s.1 ++ [i]) ++ e := hs.came
  have hd : (dfsK N f i s k).2 = s.2 ++ d := hs.left
  have hp := hs.perm.length_eq
  refine ⟨hs.good, ?_, ?_⟩
  · rw [hc]; simp; omega
  · rw [hc, hd]; simp; omega

end Go.Proofs.YtlcaedibmlidlaaGreat
