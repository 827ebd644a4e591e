/-
  Texts laid together in one: FrameParts.
-/
import Derived.RangeFuncNested
import Derived.RangeFuncBound
import Derived.RangeFuncCalls
import Derived.RangeFuncLeaves
import Derived.Shelf.Abstract
import Derived.Shelf.RegionOpen
import Derived.WalkKit
import Derived.OwnWalkIn
import Derived.TacticsInMore
import Derived.LoopNIn
import Derived.LoopIn
import Derived.Test.YtpggcpnjcalfaaaB03
/-
  parts of frame, and what its iterator tells: the places of the instructions behind a head, with the instructions, whose words are those of the list itself.
-/
namespace Go.Proofs.Ytpggcpnjcalfaaa
open Go.RowKit Go.Shelf
attribute [local go_sem] Oper.semAt_some

theorem parts_any (a : Option Addr) (n cap : Nat) (w : World) :
    Calls Try.prog 53 #[.slice a n cap] w fun e w' => e = .returned (.func (.func 77) #[] #[.pointer (some ⟨w.heap.size, 0, none⟩)]) ∧ w.alloc (.cells #[.slice a n cap] 23) = w' := by
  go_enter Try.func53, Try.ntmps53
  go_wp2
  go_ret
  exact ⟨rfl, rfl⟩

/-- The address that lies so many cells further (where no room is left there: the address itself). -/
def further (a : Option Addr) (cap k : Nat) : Option Addr := if cap = k then a else a.map fun x => ⟨x.block, x.off + k, none⟩
/-- What is told of the instruction at a place. -/
def partV (a : Option Addr) (cap : Nat) (zs : List Int) (p : Nat) : Array Value := #[.int .i64 p, .agg #[.int .u16 (opI zs p), .slice (further a cap (p + 1)) (p + cntN zs p - (p + 1)) (cap - (p + 1))]]

set_option maxRecDepth 100000 in
set_option maxHeartbeats 2000000 in
theorem parts_tells (a : Option Addr) (n cap : Nat) (zs : List Int) (w0 : World) (ha : View .u32 w0 a zs) (hl : zs.length = n) (hw : Within 4294967296 zs) (hn : 4 * n ≤ 140737488351232) (hc : n ≤ cap) (τ : TypeId → Prop) (hτ : τ 23)
    (w : World) (B : Nat) (hb : Below w0.heap.size w0 w) (hB : w.heap[B]? = some (.cells #[.slice a n cap] 23 (0, 0))) :
    Tells Try.prog 77 #[.pointer (some ⟨B, 0, none⟩)] (partV a cap zs) (fun pre p _ => pre ++ [p] <+: rest zs 5) w0.heap.size τ (fun xs => xs = rest zs 5) (fun pre => pre <+: rest zs 5) w := by
  intro l J Jx W hW hJ hJx hY h0
  have hBW : W.heap[B]? = some (.cells #[.slice a n cap] 23 (0, 0)) := (hW.block B (Array.getElem?_eq_some_iff.1 hB).1).trans hB
  have hbW : Below w0.heap.size w0 W := hb.trans (hW.mono hb.size)
  have HL : Hid (zs.length = n) := hl
  clear hl hB hb hW
  refine callsIn_of_wp Try.func77 rfl trivial ?_ rfl
  simp only [Try.ntmps77, List.size_toArray, List.length_cons, List.length_nil, Nat.reduceAdd, Nat.reduceSub, Array.replicate_succ, Array.replicate_zero, List.push_toArray, List.append_toArray, List.nil_append, List.cons_append]
  gi_wp2
  gi_loopw [3] (fun i wr => ∃ (p : Nat) (pre : List Nat), i = .int .i64 p ∧ pre ++ rest zs p = rest zs 5 ∧ (p = 5 ∨ p ≤ n) ∧ J pre wr ∧ wr.heap[B]? = some (.cells #[.slice a n cap] 23 (0, 0)) ∧ Below w0.heap.size w0 wr) (fun i _ => n - (intOf i).toNat)
  case atStart => exact ⟨5, [], rfl, rfl, .inl rfl, h0, hBW, hbW⟩
  case round =>
    obtain ⟨p, pre, rfl, hpre, hpn, hJs, hBr, hbr⟩ := hrel
    clear hBW hbW h0
    have HP : Hid (pre ++ rest zs p = rest zs 5) := hpre
    clear hpre
    have hbx : wr.cell? ⟨B, 0, none⟩ = some (.slice a n cap) := by simp [World.cell?, hBr]
    by_cases hlt : p < n
    · have hav := ha.below hbr
      obtain ⟨b, off, rfl, _, hc1⟩ := hav p (by rw [HL.out]; exact hlt)
      have hx := hw.at (k := p) (by rw [HL.out]; exact hlt)
      have hF := fun wx => partFirst_any (nth zs p) wx hx.1 hx.2
      have hcn : nth zs p / 65536 = (cntN zs p : Int) := cntN_int zs p hx.1
      have hop : nth zs p % 65536 = opI zs p := rfl
      rw [hcn, hop] at hF
      have hpi : (p : Int) < (n : Int) := by omega
      clear hav hx hcn hop
      cases hbad : badB zs p with
      | true =>
        have HE : Hid (pre = rest zs 5) := by
          have e1 := HP.out
          rw [rest_bad zs p (by rw [HL.out]; exact hlt) hbad, List.append_nil] at e1
          exact e1
        have hcc : cntN zs p = 0 ∨ n < p + cntN zs p := by
          have := hbad
          unfold badB at this
          rw [HL.out] at this
          simpa using this
        clear hbad
        generalize cntN zs p = c at *
        generalize opI zs p = op at *
        generalize nth zs p = x at *
        rcases hcc with rfl | hcc
        · gi_wp2_with fail
          refine ⟨trivial, rfl, (callsIn_wide.2 (hF _)).mono ?_⟩
          rintro e w' ⟨rfl, rfl⟩
          gi_wp2
          refine bodyPost_ret (results_none rfl _ _ _) rfl ?_
          exact ⟨⟨_, rfl⟩, .inl ⟨pre, HE.out, hJs⟩⟩
        · by_cases hc0 : c = 0
          · subst hc0
            gi_wp2_with fail
            refine ⟨trivial, rfl, (callsIn_wide.2 (hF _)).mono ?_⟩
            rintro e w' ⟨rfl, rfl⟩
            gi_wp2
            refine bodyPost_ret (results_none rfl _ _ _) rfl ?_
            exact ⟨⟨_, rfl⟩, .inl ⟨pre, HE.out, hJs⟩⟩
          · have b1 : ((c : Int) == 0) = false := by simpa using hc0
            have b2 : (n : Int) - (p : Int) < (c : Int) := by omega
            have b3 : decide ((n : Int) - (p : Int) < (c : Int)) = true := decide_eq_true b2
            gi_wp2_with fail
            refine ⟨trivial, rfl, (callsIn_wide.2 (hF _)).mono ?_⟩
            rintro e w' ⟨rfl, rfl⟩
            gi_wp2
            refine bodyPost_ret (results_none rfl _ _ _) rfl ?_
            exact ⟨⟨_, rfl⟩, .inl ⟨pre, HE.out, hJs⟩⟩
      | false =>
        have hgo := rest_go zs p (by rw [HL.out]; exact hlt) hbad
        have HG : Hid (rest zs p = p :: rest zs (p + cntN zs p)) := hgo
        have hc0 := cnt_pos hbad
        have hcf := cnt_fits hbad
        rw [HL.out] at hcf
        have HPX : Hid (pre ++ [p] <+: rest zs 5) := by
          show _ <+: _
          rw [← HP.out, hgo]
          exact ⟨rest zs (p + cntN zs p), by simp⟩
        obtain ⟨fn, tmps, assign, body, hy, hR⟩ := hY pre p wr hJs HPX.out
        simp only [partV] at hy
        clear hbad hgo
        generalize cntN zs p = c at *
        generalize opI zs p = op at *
        generalize nth zs p = x at *
        have b1 : ((c : Int) == 0) = false := by simp; omega
        have b3 : decide ((n : Int) - (p : Int) < (c : Int)) = false := decide_eq_false (by omega)
        by_cases hcap : cap = p + 1
        · subst hcap
          rw [show further (some ⟨b, off, none⟩) (p + 1) (p + 1) = some ⟨b, off, none⟩ from if_pos rfl, Nat.sub_self] at hy
          gi_wp2_with fail
          refine ⟨trivial, rfl, (callsIn_wide.2 (hF _)).mono ?_⟩
          rintro e w' ⟨rfl, rfl⟩
          gi_wp2_with fail
          refine ⟨rfl, hR.mono ?_⟩
          rintro e W3 ⟨_, ⟨rfl, hJ3, hk3⟩ | ⟨rfl, hJx3⟩⟩
          · have hB3 := hk3.2 B _ _ _ hτ hBr
            have hb3 : Below w0.heap.size w0 W3 := hbr.trans hk3.1
            clear hy hR hY
            gi_wp2
            go_roundw
            case rel => exact ⟨p + c, pre ++ [p], by go_num, by rw [List.append_assoc, List.singleton_append, ← HG.out]; exact HP.out, .inr hcf, hJ3, hB3, hb3⟩
            case measure => simp [intOf]; omega
          · clear hy hR hY
            gi_wp2
            refine bodyPost_ret (results_none rfl _ _ _) rfl ?_
            exact ⟨⟨_, rfl⟩, .inr ⟨_, HPX.out, hJx3⟩⟩
        · rw [show further (some ⟨b, off, none⟩) cap (p + 1) = some ⟨b, off + (p + 1), none⟩ from if_neg hcap] at hy
          gi_wp2_with fail
          refine ⟨trivial, rfl, (callsIn_wide.2 (hF _)).mono ?_⟩
          rintro e w' ⟨rfl, rfl⟩
          gi_wp2_with fail
          refine ⟨rfl, hR.mono ?_⟩
          rintro e W3 ⟨_, ⟨rfl, hJ3, hk3⟩ | ⟨rfl, hJx3⟩⟩
          · have hB3 := hk3.2 B _ _ _ hτ hBr
            have hb3 : Below w0.heap.size w0 W3 := hbr.trans hk3.1
            clear hy hR hY
            gi_wp2
            go_roundw
            case rel => exact ⟨p + c, pre ++ [p], by go_num, by rw [List.append_assoc, List.singleton_append, ← HG.out]; exact HP.out, .inr hcf, hJ3, hB3, hb3⟩
            case measure => simp [intOf]; omega
          · clear hy hR hY
            gi_wp2
            refine bodyPost_ret (results_none rfl _ _ _) rfl ?_
            exact ⟨⟨_, rfl⟩, .inr ⟨_, HPX.out, hJx3⟩⟩
    · have HE : Hid (pre = rest zs 5) := by
        have e1 := HP.out
        rw [rest_end zs p (by rw [HL.out]; omega), List.append_nil] at e1
        exact e1
      have hpi : (n : Int) ≤ (p : Int) := by omega
      gi_wp2
      go_end0
      exact ⟨⟨_, rfl⟩, .inl ⟨pre, HE.out, hJs⟩⟩

end Go.Proofs.Ytpggcpnjcalfaaa
