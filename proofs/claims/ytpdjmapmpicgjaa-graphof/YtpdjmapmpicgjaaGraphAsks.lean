/-
  What a graph answers: Next, Ahead, Reached, Order.
-/
import Derived.WalkSpells
import Derived.WalkMore
import Derived.BigGuard
import Derived.Test.YtpdjmapmpicgjaaProg
import Derived.Test.YtpdjmapmpicgjaaGraphCalls
namespace Go.Proofs.Ytpdjmapmpicgjaa
open Go.RowKit
set_option linter.unusedVariables false
set_option linter.unusedSimpArgs false
set_option maxRecDepth 10000

def nextL (N : List (List Int)) (i : Int) : List Int := if nodeB N.length i then rowN N i.toNat else []
def aheadL (N : List (List Int)) (i : Int) : List Int := if nodeB N.length i then aheadF N i else []
def reachB (N : List (List Int)) (i : Int) : Bool := nodeB N.length i && decide (i ∈ (walkF N).1)
/-- A row of numbers that is answered in new memory. -/
def AnsI (w w' : World) (e : Ending) (l : List Int) : Prop := ∃ v, e = .returned v ∧ w'.ownsRow w.heap.size 3 1 v l.length (l.map (Value.int .i64)) ∧ Below w.heap.size w w'
theorem ansI_nil (w : World) : AnsI w w (.returned (.slice none 0 0)) [] := ⟨_, rfl, World.ownsRow_nil _ _ _ _, Below.refl _ _⟩
theorem nodeB_true {n : Nat} {i : Int} (h : nodeB n i = true) : ∃ k : Nat, k < n ∧ i = (k : Int) := by
  unfold nodeB at h
  have h' := of_decide_eq_true h
  obtain ⟨k, rfl⟩ := Int.eq_ofNat_of_zero_le h'.1
  exact ⟨k, by omega, rfl⟩
theorem GrV.rows {w : World} {lo p : Nat} {N : List (List Int)} (h : GrV w lo p N) (j : Nat) : (rowN N j).length ≤ 4096 := Nat.le_trans (nodup_len N.length _ (h.once j) (fun x hx => h.edges j x hx)) h.few

theorem graphNext_nil (i : Int) (w : World) : Calls Try.prog 24 #[.pointer none, .int .i64 i] w fun e w' => e = .returned (.slice none 0 0) ∧ w = w' := by
  have hH := graphHas_nil i w
  go_enter Try.func24, Try.ntmps24
  go_wp2_with fail
  refine hH.mono ?_
  rintro e w' ⟨rfl, rfl⟩
  go_wp2
  go_ret
  exact ⟨rfl, rfl⟩
theorem graphAhead_nil (i : Int) (w : World) : Calls Try.prog 25 #[.pointer none, .int .i64 i] w fun e w' => e = .returned (.slice none 0 0) ∧ w = w' := by
  have hH := graphHas_nil i w
  go_enter Try.func25, Try.ntmps25
  go_wp2_with fail
  refine hH.mono ?_
  rintro e w' ⟨rfl, rfl⟩
  go_wp2
  go_ret
  exact ⟨rfl, rfl⟩
theorem graphOrder_nil (w : World) : Calls Try.prog 27 #[.pointer none] w fun e w' => e = .returned (.slice none 0 0) ∧ w = w' := by
  go_enter Try.func27, Try.ntmps27
  go_wp2
  go_ret
  exact ⟨rfl, rfl⟩
theorem graphReached_nil (i : Int) (w : World) : Calls Try.prog 26 #[.pointer none, .int .i64 i] w fun e w' => e = .returned (.bool false) ∧ w = w' := by
  have hH := graphHas_nil i w
  go_enter Try.func26, Try.ntmps26
  go_wp2_with fail
  refine hH.mono ?_
  rintro e w' ⟨rfl, rfl⟩
  go_wp2
  go_ret
  exact ⟨rfl, rfl⟩

set_option maxHeartbeats 2000000 in
theorem graphNext_any (i : Int) (w : World) (lo p : Nat) (N : List (List Int)) (h : GrV w lo p N) : Calls Try.prog 24 #[.pointer (some ⟨p, 0, none⟩), .int .i64 i] w fun e w' => AnsI w w' e (nextL N i) := by
  have hH := graphHas_any i w lo p N h
  cases hn : nodeB N.length i with
  | false =>
    rw [hn] at hH
    have HE : Hid (nextL N i = []) := by show _ = _; unfold nextL; rw [hn]; rfl
    go_enter Try.func24, Try.ntmps24
    go_wp2_with fail
    refine hH.mono ?_
    rintro e w' ⟨rfl, rfl⟩
    go_wp2_with fail
    go_ret
    rw [HE.out]
    exact ansI_nil w
  | true =>
    rw [hn] at hH
    have hrl := h.rows
    obtain ⟨k, hk, rfl⟩ := nodeB_true hn
    have HE : Hid (nextL N (k : Int) = rowN N k) := by show _ = _; unfold nextL; rw [hn]; simp
    obtain ⟨nv, av, m, cv, ov, h1, h2, _⟩ := h.mem
    obtain ⟨a, c, rfl, _, hLV, _⟩ := h2.head
    have c0 : w.cell? ⟨p, 0, none⟩ = some (.slice a N.length c) := by rw [h1.cell]; rfl
    obtain ⟨b, off, aj, nj, cj, rfl, hb, hc, hcl, hcc, hvj⟩ := hLV k hk
    have hki : (k : Int) < (N.length : Int) := by omega
    have hC := graphCopied_any aj nj cj (rowN N k) w hvj hcl (by have := hrl k; omega)
    have HCL := hide hcl
    clear h h1 h2 hLV hb hcc hvj hn hrl hcl
    go_enter Try.func24, Try.ntmps24
    go_wp2_with fail
    refine hH.mono ?_
    rintro e w' ⟨rfl, rfl⟩
    clear hH
    go_wp2_with fail
    refine hC.mono ?_
    rintro e w' ⟨g, rfl, ho, hb⟩
    have HO := hide (And.intro ho hb)
    clear ho hb hC
    go_wp2_with fail
    go_ret
    rw [HE.out]
    exact ⟨_, rfl, by rw [HCL.out]; exact HO.out.1, HO.out.2⟩

set_option maxHeartbeats 2000000 in
theorem graphAhead_any (i : Int) (w : World) (lo p : Nat) (N : List (List Int)) (h : GrV w lo p N) : Calls Try.prog 25 #[.pointer (some ⟨p, 0, none⟩), .int .i64 i] w fun e w' => AnsI w w' e (aheadL N i) := by
  have hH := graphHas_any i w lo p N h
  cases hn : nodeB N.length i with
  | false =>
    rw [hn] at hH
    have HE : Hid (aheadL N i = []) := by show _ = _; unfold aheadL; rw [hn]; rfl
    go_enter Try.func25, Try.ntmps25
    go_wp2_with fail
    refine hH.mono ?_
    rintro e w' ⟨rfl, rfl⟩
    go_wp2_with fail
    go_ret
    rw [HE.out]
    exact ansI_nil w
  | true =>
    rw [hn] at hH
    have hfew := h.few
    obtain ⟨k, hk, rfl⟩ := nodeB_true hn
    have HE : Hid (aheadL N (k : Int) = rowN (aheadR N) k) := by show _ = _; unfold aheadL; rw [hn, aheadR_row N k hk]; rfl
    obtain ⟨nv, av, m, cv, ov, h1, _, h2, _⟩ := h.mem
    obtain ⟨a, c, rfl, _, hLV, _⟩ := h2.head
    have hal := aheadR_len N
    have c0 : w.cell? ⟨p, 1, none⟩ = some (.slice a N.length c) := by rw [h1.cell, hal]; rfl
    obtain ⟨b, off, aj, nj, cj, rfl, hb, hc, hcl, hcc, hvj⟩ := hLV k (by rw [hal]; exact hk)
    have hki : (k : Int) < (N.length : Int) := by omega
    have hrl : nj ≤ 4096 := by rw [← hcl, aheadR_row N k hk]; exact Nat.le_trans (aheadT_len _ _ _) hfew
    have hC := graphCopied_any aj nj cj (rowN (aheadR N) k) w hvj hcl (by omega)
    have HCL := hide hcl
    clear h h1 h2 hLV hb hcc hvj hn hrl hcl hal
    go_enter Try.func25, Try.ntmps25
    go_wp2_with fail
    refine hH.mono ?_
    rintro e w' ⟨rfl, rfl⟩
    clear hH
    go_wp2_with fail
    refine hC.mono ?_
    rintro e w' ⟨g, rfl, ho, hb⟩
    have HO := hide (And.intro ho hb)
    clear ho hb hC
    go_wp2_with fail
    go_ret
    rw [HE.out]
    exact ⟨_, rfl, by rw [HCL.out]; exact HO.out.1, HO.out.2⟩

set_option maxHeartbeats 2000000 in
theorem graphReached_any (i : Int) (w : World) (lo p : Nat) (N : List (List Int)) (h : GrV w lo p N) : Calls Try.prog 26 #[.pointer (some ⟨p, 0, none⟩), .int .i64 i] w fun e w' => e = .returned (.bool (reachB N i)) ∧ w = w' := by
  have hH := graphHas_any i w lo p N h
  cases hn : nodeB N.length i with
  | false =>
    rw [hn] at hH
    have HE : Hid (reachB N i = false) := by show _ = _; unfold reachB; rw [hn]; rfl
    go_enter Try.func26, Try.ntmps26
    go_wp2_with fail
    refine hH.mono ?_
    rintro e w' ⟨rfl, rfl⟩
    go_wp2
    go_ret
    exact ⟨by rw [HE.out]; rfl, rfl⟩
  | true =>
    rw [hn] at hH
    have hfew := h.few
    obtain ⟨k, hk, rfl⟩ := nodeB_true hn
    obtain ⟨nv, av, m, cv, ov, h1, _, _, hM, _⟩ := h.mem
    have hk4 : k < 4096 := by omega
    have HE : Hid (reachB N (k : Int) = hasM m k) := by show _ = _; unfold reachB; rw [hn, hM k hk4]; rfl
    have hA := marksHas_any p 2 m k w h1.mkAt hk4
    generalize hasM m k = r at *
    clear h h1 hM hn
    go_enter Try.func26, Try.ntmps26
    go_wp2_with fail
    refine hH.mono ?_
    rintro e w' ⟨rfl, rfl⟩
    clear hH
    go_wp2_with fail
    refine hA.mono ?_
    rintro e w' ⟨rfl, rfl⟩
    clear hA
    go_wp2
    go_ret
    exact ⟨by rw [HE.out]; rfl, rfl⟩

set_option maxHeartbeats 2000000 in
theorem graphOrder_any (w : World) (lo p : Nat) (N : List (List Int)) (h : GrV w lo p N) : Calls Try.prog 27 #[.pointer (some ⟨p, 0, none⟩)] w fun e w' => AnsI w w' e (walkF N).2.reverse := by
  have hQ := walkF_all N h.edges h.some_
  have hlen : (walkF N).2.length ≤ 4096 := by rw [hQ.perm.length_eq]; exact Nat.le_trans hQ.good.len h.few
  obtain ⟨nv, av, m, cv, ov, h1, _, _, _, _, ho⟩ := h.mem
  have hol : (walkF N).2.length = (walkF N).2.reverse.length := by simp
  rw [hol] at ho hlen
  generalize (walkF N).2.reverse = zs at *
  obtain ⟨a, c, rfl, hv, _⟩ := View.ofOwned ho
  have c0 : w.cell? ⟨p, 67, none⟩ = some (.slice a zs.length c) := by rw [h1.cell, gC_o]
  have hC := graphCopied_any a zs.length c zs w hv rfl (by omega)
  clear h h1 hv ho hQ hol
  go_enter Try.func27, Try.ntmps27
  go_wp2_with fail
  refine hC.mono ?_
  rintro e w' ⟨g, rfl, ho, hb⟩
  have HO := hide (And.intro ho hb)
  clear ho hb hC
  go_wp2_with fail
  go_ret
  exact ⟨_, rfl, HO.out.1, HO.out.2⟩

end Go.Proofs.Ytpdjmapmpicgjaa
