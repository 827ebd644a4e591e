/-
  once of graph: nodes, each where it stands first, in new memory. Marks in a block of their own.
-/
import Derived.WalkSpells
import Derived.WalkMore
import Derived.OwnWalk
import Derived.Deep.MidRow
import Derived.Test.YtpdjmapmpicgjaaProg
import Derived.Test.YtpdjmapmpicgjaaBoxes
import Derived.Test.YtpdjmapmpicgjaaGraphMarks
import Derived.Test.YtpdjmapmpicgjaaGrRows
namespace Go.Proofs.Ytpdjmapmpicgjaa
open Go.RowKit
set_option linter.unusedVariables false
set_option linter.unusedSimpArgs false
set_option maxRecDepth 10000

def arr64 (m : Nat → Nat) : List Value := (List.range 64).map fun k => .int .u64 (m k : Int)
theorem arr64_len (m : Nat → Nat) : (arr64 m).length = 64 := by simp [arr64]
theorem arr64_get (m : Nat → Nat) (k : Nat) (h : k < 64) : (arr64 m)[k]? = some (.int .u64 (m k : Int)) := by simp [arr64, h]
theorem arr64_set (m : Nat → Nat) (i : Nat) (h : i < 4096) : (arr64 m).set (i / 64) (.int .u64 (setM m i (i / 64) : Int)) = arr64 (setM m i) := by
  apply List.ext_getElem?
  intro j
  by_cases hj : j < 64
  · rw [List.getElem?_set, arr64_get _ j hj, arr64_get _ j hj, arr64_len]
    by_cases e : i / 64 = j
    · subst e; simp [hj]
    · have : setM m i j = m j := by unfold setM; rw [if_neg (fun x => e x.symm)]
      simp [e, this]
  · rw [List.getElem?_eq_none (by rw [List.length_set, arr64_len]; omega), List.getElem?_eq_none (by rw [arr64_len]; omega)]
/-- Block b is marks. -/
def MkB (w : World) (b : Nat) (m : Nat → Nat) : Prop := w.heap[b]? = some (.cells (arr64 m).toArray 69 (0, 0)) ∧ ∀ k, m k < 18446744073709551616
theorem MkB.at {w : World} {b : Nat} {m : Nat → Nat} (h : MkB w b m) : MkAt w b 0 m := fun k hk => by
  refine ⟨?_, ?_, h.2 k⟩
  · rw [Nat.zero_add]; simp [World.cell?, h.1, arr64_get m k hk]
  · simp [World.frozen?, h.1]
theorem MkB.set {w : World} {b : Nat} {m : Nat → Nat} (h : MkB w b m) {i : Nat} (hi : i < 4096) (d : Nat) : MkB ((w.setCell ⟨b, 0 + i / 64, none⟩ (.int .u64 (setM m i (i / 64) : Int))).drewN d) b (setM m i) := by
  refine ⟨?_, fun k => setM_lt m i k (h.2 k)⟩
  show (w.setCell ⟨b, 0 + i / 64, none⟩ (.int .u64 (setM m i (i / 64) : Int))).heap[b]? = _
  rw [Nat.zero_add]
  simp only [World.setCell, Array.getElem?_modify]
  rw [if_pos trivial, h.1, ← arr64_set m i hi]
  simp
theorem MkB.below {w w' : World} {b : Nat} {m : Nat → Nat} (h : MkB w b m) (hb : Below w.heap.size w w') : MkB w' b m := ⟨(hb.block b (Array.getElem?_eq_some_iff.1 h.1).1).trans h.1, h.2⟩
theorem MkB.kept {w w' : World} {b : Nat} {m : Nat → Nat} {ob : Option Nat} (h : MkB w b m) (hg : w.grownBy w' ob) (hne : ob ≠ some b) : MkB w' b m := ⟨(hg.block b (Array.getElem?_eq_some_iff.1 h.1).1 (fun e => hne e.symm)).trans h.1, h.2⟩
theorem arr64_zero : (arr64 fun _ => 0).toArray = #[.int .u64 0, .int .u64 0, .int .u64 0, .int .u64 0, .int .u64 0, .int .u64 0, .int .u64 0, .int .u64 0, .int .u64 0, .int .u64 0, .int .u64 0, .int .u64 0, .int .u64 0, .int .u64 0, .int .u64 0, .int .u64 0, .int .u64 0, .int .u64 0, .int .u64 0, .int .u64 0, .int .u64 0, .int .u64 0, .int .u64 0, .int .u64 0, .int .u64 0, .int .u64 0, .int .u64 0, .int .u64 0, .int .u64 0, .int .u64 0, .int .u64 0, .int .u64 0, .int .u64 0, .int .u64 0, .int .u64 0, .int .u64 0, .int .u64 0, .int .u64 0, .int .u64 0, .int .u64 0, .int .u64 0, .int .u64 0, .int .u64 0, .int .u64 0, .int .u64 0, .int .u64 0, .int .u64 0, .int .u64 0, .int .u64 0, .int .u64 0, .int .u64 0, .int .u64 0, .int .u64 0, .int .u64 0, .int .u64 0, .int .u64 0, .int .u64 0, .int .u64 0, .int .u64 0, .int .u64 0, .int .u64 0, .int .u64 0, .int .u64 0, .int .u64 0] := rfl
theorem MkB.new (w : World) : MkB (w.alloc (.cells #[.int .u64 0, .int .u64 0, .int .u64 0, .int .u64 0, .int .u64 0, .int .u64 0, .int .u64 0, .int .u64 0, .int .u64 0, .int .u64 0, .int .u64 0, .int .u64 0, .int .u64 0, .int .u64 0, .int .u64 0, .int .u64 0, .int .u64 0, .int .u64 0, .int .u64 0, .int .u64 0, .int .u64 0, .int .u64 0, .int .u64 0, .int .u64 0, .int .u64 0, .int .u64 0, .int .u64 0, .int .u64 0, .int .u64 0, .int .u64 0, .int .u64 0, .int .u64 0, .int .u64 0, .int .u64 0, .int .u64 0, .int .u64 0, .int .u64 0, .int .u64 0, .int .u64 0, .int .u64 0, .int .u64 0, .int .u64 0, .int .u64 0, .int .u64 0, .int .u64 0, .int .u64 0, .int .u64 0, .int .u64 0, .int .u64 0, .int .u64 0, .int .u64 0, .int .u64 0, .int .u64 0, .int .u64 0, .int .u64 0, .int .u64 0, .int .u64 0, .int .u64 0, .int .u64 0, .int .u64 0, .int .u64 0, .int .u64 0, .int .u64 0, .int .u64 0] 69)) w.heap.size (fun _ => 0) := by
  refine ⟨?_, fun k => by show (0 : Nat) < _; omega⟩
  rw [arr64_zero]
  show (w.heap.push _)[w.heap.size]? = _
  rw [Array.getElem?_push_size]
theorem hasM_zero (i : Nat) : hasM (fun _ => 0) i = false := by simp [hasM]
/-- The marked nodes are these. -/
def Marked (m : Nat → Nat) (c : List Int) : Prop := ∀ i : Nat, i < 4096 → hasM m i = decide ((i : Int) ∈ c)
theorem marked_nil : Marked (fun _ => 0) [] := fun i _ => by simp [hasM_zero]
theorem Marked.add {m : Nat → Nat} {c : List Int} (h : Marked m c) (i : Nat) : Marked (setM m i) (c ++ [(i : Int)]) := fun j hj => by
  rw [hasM_setM, h j hj, Bool.eq_iff_iff]
  simp only [Bool.or_eq_true, decide_eq_true_eq, List.mem_append, List.mem_singleton]
  constructor
  · rintro (h | h)
    · exact .inr (by rw [h])
    · exact .inl h
  · rintro (h | h)
    · exact .inr h
    · exact .inl (by omega)

theorem measZ2 {k n : Nat} (h : k < n) : n - (intOf (.int .i64 ((k : Int) + 1))).toNat < n - (intOf (.int .i64 (k : Int))).toNat := by simp [intOf]; omega
/-- A row of nodes that is built beside marks. -/
structure OnceS (w wr : World) (B : Nat) (v : Value) (zs : List Int) (m : Nat → Nat) : Prop where
  own : wr.ownsRow (B + 1) 3 1 v zs.length (zs.map (Value.int .i64))
  marks : MkB wr B m
  marked : Marked m zs
  bel : Below w.heap.size w wr
  lt : w.heap.size = B
theorem OnceS.below {w wr wr' : World} {B : Nat} {v : Value} {zs : List Int} {m : Nat → Nat} (h : OnceS w wr B v zs m) (hb : Below wr.heap.size wr wr') : OnceS w wr' B v zs m :=
  ⟨own_below h.own hb, h.marks.below hb, h.marked, h.bel.trans (hb.mono h.bel.size), h.lt⟩

/-- A mark more. -/
theorem OnceS.mark {w wr : World} {B : Nat} {v : Value} {zs : List Int} {m : Nat → Nat} (h : OnceS w wr B v zs m) {x : Nat} (hx : x < 4096) (d : Nat) {w3 : World} (hd : w3 = (wr.setCell ⟨B, 0 + x / 64, none⟩ (.int .u64 (setM m x (x / 64) : Int))).drewN d) :
    w3.ownsRow (B + 1) 3 1 v zs.length (zs.map (Value.int .i64)) ∧ MkB w3 B (setM m x) ∧ Below w.heap.size w w3 ∧ B < w3.heap.size := by
  have hg : wr.grownBy w3 (some B) := by
    rw [hd]
    have := grown_setCell wr B (0 + x / 64) (.int .u64 (setM m x (x / 64) : Int))
    exact ⟨this.os, this.tape, this.output, this.size, this.block⟩
  have hm : MkB w3 B (setM m x) := by rw [hd]; exact h.marks.set hx d
  refine ⟨own_grown h.own hg (fun g e e2 => by have := (World.ownsRow.lt h.own g e2).1; cases e; omega), hm, h.bel.grown hg h.bel.size (fun k e => by cases e; have := h.lt; omega), (Array.getElem?_eq_some_iff.1 hm.1).1⟩
theorem OnceS.push {w w3 w5 : World} {B : Nat} {v v' : Value} {zs : List Int} {m : Nat → Nat} {x : Nat} (o : Obj) (hown : w3.ownsRow (B + 1) 3 1 v zs.length (zs.map (Value.int .i64))) (hm : MkB w3 B (setM m x)) (hb : Below w.heap.size w w3) (hl : w.heap.size = B) (hmk : Marked m zs) (hg : (w3.alloc o).grownBy w5 v.ownBlock) (h' : w5.ownsRow (B + 1) 3 1 v' (zs ++ [(x : Int)]).length ((zs ++ [(x : Int)]).map (Value.int .i64))) : OnceS w w5 B v' (zs ++ [(x : Int)]) (setM m x) := by
  have ha : Below w3.heap.size w3 (w3.alloc o) := (Below.refl _ _).alloc (Nat.le_refl _) _
  refine ⟨h', (hm.below ha).kept hg (fun e => by have := (World.ownsRow.lt hown B e).1; omega), hmk.add x, (hb.trans (ha.mono hb.size)).grown hg (by rw [World.size_alloc]; have := hb.size; omega) (fun k e => by have := (World.ownsRow.lt hown k e).1; omega), hl⟩

set_option maxHeartbeats 4000000 in
theorem once_any (a : Option Addr) (n c : Nat) (zs : List Int) (w : World) (hv : View .i64 w a zs) (hl : zs.length = n) (hn : 8 * n ≤ 140737488351232) (hr : ∀ x ∈ zs, 0 ≤ x ∧ x < 4096) :
    Calls Try.prog 50 #[.slice a n c] w fun e w' => ∃ v, e = .returned v ∧ w'.ownsRow w.heap.size 3 1 v (onceF zs).length ((onceF zs).map (Value.int .i64)) ∧ Below w.heap.size w w' := by
  obtain ⟨i0, hi, hz0, hz1, hz2⟩ := info_parts GrInts.info
  have HL := hide hl
  have HR := hide hr
  have HV := hide hv
  have HN := hide hn
  have hni : (8 : Int) * n ≤ 140737488351232 := by omega
  clear hl hr hv hn
  have HM := hide (MkB.new w)
  have HW0 : Hid ((w.alloc (.cells #[.int .u64 0, .int .u64 0, .int .u64 0, .int .u64 0, .int .u64 0, .int .u64 0, .int .u64 0, .int .u64 0, .int .u64 0, .int .u64 0, .int .u64 0, .int .u64 0, .int .u64 0, .int .u64 0, .int .u64 0, .int .u64 0, .int .u64 0, .int .u64 0, .int .u64 0, .int .u64 0, .int .u64 0, .int .u64 0, .int .u64 0, .int .u64 0, .int .u64 0, .int .u64 0, .int .u64 0, .int .u64 0, .int .u64 0, .int .u64 0, .int .u64 0, .int .u64 0, .int .u64 0, .int .u64 0, .int .u64 0, .int .u64 0, .int .u64 0, .int .u64 0, .int .u64 0, .int .u64 0, .int .u64 0, .int .u64 0, .int .u64 0, .int .u64 0, .int .u64 0, .int .u64 0, .int .u64 0, .int .u64 0, .int .u64 0, .int .u64 0, .int .u64 0, .int .u64 0, .int .u64 0, .int .u64 0, .int .u64 0, .int .u64 0, .int .u64 0, .int .u64 0, .int .u64 0, .int .u64 0, .int .u64 0, .int .u64 0, .int .u64 0, .int .u64 0] 69)).heap.size = w.heap.size + 1) := World.size_alloc _ _
  have HB0 : Hid (Below w.heap.size w (w.alloc (.cells #[.int .u64 0, .int .u64 0, .int .u64 0, .int .u64 0, .int .u64 0, .int .u64 0, .int .u64 0, .int .u64 0, .int .u64 0, .int .u64 0, .int .u64 0, .int .u64 0, .int .u64 0, .int .u64 0, .int .u64 0, .int .u64 0, .int .u64 0, .int .u64 0, .int .u64 0, .int .u64 0, .int .u64 0, .int .u64 0, .int .u64 0, .int .u64 0, .int .u64 0, .int .u64 0, .int .u64 0, .int .u64 0, .int .u64 0, .int .u64 0, .int .u64 0, .int .u64 0, .int .u64 0, .int .u64 0, .int .u64 0, .int .u64 0, .int .u64 0, .int .u64 0, .int .u64 0, .int .u64 0, .int .u64 0, .int .u64 0, .int .u64 0, .int .u64 0, .int .u64 0, .int .u64 0, .int .u64 0, .int .u64 0, .int .u64 0, .int .u64 0, .int .u64 0, .int .u64 0, .int .u64 0, .int .u64 0, .int .u64 0, .int .u64 0, .int .u64 0, .int .u64 0, .int .u64 0, .int .u64 0, .int .u64 0, .int .u64 0, .int .u64 0, .int .u64 0] 69))) := (Below.refl _ w).alloc (Nat.le_refl _) _
  have hHS := fun m (b : Nat) wx (i : Nat) (h : MkB wx b m) (hi : i < 4096) => marksHas_any b 0 m i wx h.at hi
  have hST := fun m (b : Nat) wx (i : Nat) (h : MkB wx b m) (hi : i < 4096) => marksSet_any b 0 m i wx h.at hi
  have HHS := hide hHS
  have HST := hide hST
  clear hHS hST
  rcases Decidable.em ((4096 : Int) < (n : Int)) with hm | hm
  all_goals
    go_enter Try.func50, Try.ntmps50
    go_wp2_with (at_make; first | (refine wpList_make_own _ rfl _ _ 32 rfl (w.heap.size + 1) 3 i0 (.int .i64 0) 1 Try.underlying32 hi hz0 hz1 _ _ _ 4096 rfl rfl (by rfl) (by rw [hz2]; omega) (by unfold maxLen; omega) (by simp) ?_) | (refine wpList_make_own _ rfl _ _ 32 rfl (w.heap.size + 1) 3 i0 (.int .i64 0) 1 Try.underlying32 hi hz0 hz1 _ _ _ n rfl rfl (by rfl) (by rw [hz2]; have := HN.out; omega) (by unfold maxLen; have := HN.out; omega) (by simp) ?_))
    intro w1 hown1 hgr1
    have hb1 : Below (w.heap.size + 1) (w.alloc (.cells #[.int .u64 0, .int .u64 0, .int .u64 0, .int .u64 0, .int .u64 0, .int .u64 0, .int .u64 0, .int .u64 0, .int .u64 0, .int .u64 0, .int .u64 0, .int .u64 0, .int .u64 0, .int .u64 0, .int .u64 0, .int .u64 0, .int .u64 0, .int .u64 0, .int .u64 0, .int .u64 0, .int .u64 0, .int .u64 0, .int .u64 0, .int .u64 0, .int .u64 0, .int .u64 0, .int .u64 0, .int .u64 0, .int .u64 0, .int .u64 0, .int .u64 0, .int .u64 0, .int .u64 0, .int .u64 0, .int .u64 0, .int .u64 0, .int .u64 0, .int .u64 0, .int .u64 0, .int .u64 0, .int .u64 0, .int .u64 0, .int .u64 0, .int .u64 0, .int .u64 0, .int .u64 0, .int .u64 0, .int .u64 0, .int .u64 0, .int .u64 0, .int .u64 0, .int .u64 0, .int .u64 0, .int .u64 0, .int .u64 0, .int .u64 0, .int .u64 0, .int .u64 0, .int .u64 0, .int .u64 0, .int .u64 0, .int .u64 0, .int .u64 0, .int .u64 0] 69)) w1 := (Below.refl _ _).grown hgr1 (by rw [HW0.out]; exact Nat.le_refl _) (by simp)
    have HS := hide (OnceS.mk (w := w) (B := w.heap.size) hown1 (HM.out.below (hb1.mono (by rw [HW0.out]; exact Nat.le_refl _))) marked_nil (HB0.out.trans (hb1.mono (by omega))) rfl)
    clear HM HB0 HW0 hb1 hgr1 hown1
    generalize (w.alloc (.cells _ 69)).heap.size = GG at *
    have hu : (0 : Int) ≤ (n : Int) := by omega
    clear hm hi hz0 hz1 hz2
    go_wp2_with fail
    go_loopw [4, 13] (fun v i wr => ∃ (k : Nat) (m : Nat → Nat), k ≤ n ∧ i = .int .i64 k ∧ OnceS w wr w.heap.size v (onceF (zs.take k)) m) (fun _ i _ => n - (intOf i).toNat)
    case atStart => exact ⟨0, _, Nat.zero_le _, rfl, HS.out⟩
    case round =>
      obtain ⟨k, m, hk, rfl, hS⟩ := hrel
      by_cases hlt : k < n
      · have hkl : k < zs.length := by rw [HL.out]; exact hlt
        have hb := hS.bel
        obtain ⟨b, off, rfl, hbl, hc⟩ := HV.out k hkl
        have hc' := (hb.cell (p := ⟨b, off + k, none⟩) hbl).trans hc
        have hx := HR.out (nth zs k) (by have : nth zs k = zs[k] := by simp [nth, List.getD, hkl]
                                         rw [this]; exact List.getElem_mem hkl)
        have HSN := hide (once_snoc zs k hkl)
        have HSL : Hid ((onceF (zs.take k)).length ≤ k) := by have := once_len (zs.take k); rw [List.length_take] at this; show _ ≤ _; omega
        obtain ⟨x, hxe⟩ := Int.eq_ofNat_of_zero_le hx.1
        rw [hxe] at hc' HSN hx
        have hx4 : x < 4096 := by omega
        obtain ⟨a4, c4, rfl⟩ := own_shapeG hS.own
        generalize onceF (zs.take k) = z1 at *
        have hMk := hS.marked x hx4
        have hH := HHS.out m w.heap.size wr x hS.marks hx4
        have hki : (k : Int) < (n : Int) := by omega
        have HLT := hide hlt
        have HSS := hide hS
        clear HS hb hc hxe hkl hbl hS hlt hk hx
        generalize hq : hasM m x = q at *
        cases q with
        | true =>
          have HIN : Hid (onceF (zs.take (k + 1)) = z1) := by
            show _ = _
            have := HSN.out
            unfold addN at this
            rw [if_pos (of_decide_eq_true hMk.symm)] at this
            exact this
          clear hMk hq HSN
          go_wp2_with fail
          refine hH.mono ?_
          rintro e w2 ⟨rfl, rfl⟩
          clear hH
          go_wp2_with fail
          exact ⟨⟨k + 1, m, HLT.out, by simp, by rw [HIN.out]; exact HSS.out⟩, measZ2 HLT.out⟩
        | false =>
          have HIN : Hid (onceF (zs.take (k + 1)) = z1 ++ [(x : Int)]) := by
            show _ = _
            have := HSN.out
            unfold addN at this
            rw [if_neg (of_decide_eq_false hMk.symm)] at this
            exact this
          have hSt := HST.out m w.heap.size wr x HSS.out.marks hx4
          clear hMk hq HSN
          go_wp2_with fail
          refine hH.mono ?_
          rintro e w2 ⟨rfl, rfl⟩
          clear hH
          go_wp2_with fail
          refine hSt.mono ?_
          rintro e w3 ⟨rfl, d, hd⟩
          obtain ⟨o3, m3, b3, l3⟩ := HSS.out.mark hx4 d hd
          have ho4 : (w3.alloc (.cells #[.int .i64 (x : Int)] 3)).ownsRow (w.heap.size + 1) 3 1 (.slice a4 z1.length c4) z1.length (z1.map (Value.int .i64)) := own_below o3 ((Below.refl _ _).alloc (Nat.le_refl _) _)
          have HO4 := hide ho4
          have HO3 := hide o3
          have HM3 := hide m3
          have HB3 := hide b3
          have HL3 := hide l3
          have HNL : Hid (z1.length < 17592186044415) := by show _ < _; have := HSL.out; have := HLT.out; have := HN.out; omega
          clear hSt hd o3 m3 b3 l3 ho4
          go_wp2_with (at_builtin; refine wpList_app1 rfl (.tmp 22) (.tmp 24) rfl (w.heap.size + 1) _ z1 (x : Int) rfl w3.heap.size rfl (allocNew _ _ rfl) HO4.out HNL.out (by simp; have := HL3.out; omega) ?_)
          intro g cap w5 ho5 hg5 _
          have hS5 := OnceS.push _ HO3.out HM3.out HB3.out rfl HSS.out.marked hg5 (by simpa using ho5)
          have HS5 := hide hS5
          clear ho5 hg5 hS5 HO4 HO3 HM3 HB3 HL3
          go_wp2_with fail
          exact ⟨⟨k + 1, _, HLT.out, by simp, by rw [HIN.out]; exact HS5.out⟩, measZ2 HLT.out⟩
      · have e : k = n := by omega
        have HF : Hid (onceF (zs.take k) = onceF zs) := by show _ = _; rw [e, ← HL.out, List.take_length]
        have HSS := hide hS
        subst e
        obtain ⟨a4, c4, rfl⟩ := own_shapeG hS.own
        clear hS HS hk
        go_wp2_with fail
        go_ret
        have h1 := HSS.out.own
        rw [HF.out] at h1
        exact ⟨_, rfl, by rw [HF.out]; exact own_mono h1 (by omega), HSS.out.bel⟩

end Go.Proofs.Ytpdjmapmpicgjaa
