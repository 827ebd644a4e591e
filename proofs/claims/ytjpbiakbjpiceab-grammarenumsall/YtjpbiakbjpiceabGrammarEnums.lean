/-
  Enums of the layer grammar, and what its iterator tells: the numbers and names of a letter's enumerants, in order.
-/
import Derived.RangeFuncNested
import Derived.RangeFuncBound
import Derived.RangeFuncCalls
import Derived.RangeFuncLeaves
import Derived.Shelf.Abstract
import Derived.Shelf.RegionOpen
import Derived.WalkKit
import Derived.OwnWalkIn
import Derived.TacticsInMore
import Derived.LoopNIn
import Derived.LoopIn
import Derived.Test.YtjpbiakbjpiceabIter
import Derived.Test.YtjpbiakbjpiceabRef03Kind
namespace Go.Proofs.Ytjpbiakbjpiceab
open Go.RowKit Go.Shelf Go.Lib
set_option maxRecDepth 10000
attribute [local go_sem] Oper.semAt_some
set_option linter.unusedVariables false
set_option linter.unusedSimpArgs false

/-- What has been read of a letter's text: the number, where the name begins, what has been told. -/
abbrev EtSt := Int × Int × List (Int × ByteArray)

def etStep (s : ByteArray) (k : Nat) (c : Int) (x : EtSt) : EtSt :=
  match x with
  | (num, nf, out) =>
    if c = 59 then (0, 0, out ++ [(num, s.extract nf.toNat k)])
    else if c = 58 then (num, k + 1, out)
    else if nf = 0 then (10 * num + (c - 48), nf, out)
    else (num, nf, out)
def etTo (s : ByteArray) : Nat → EtSt
  | 0 => (0, 0, [])
  | k + 1 => etStep s k (sgn s k) (etTo s k)

def etOk (k : Nat) (c : Int) (x : EtSt) : Bool :=
  decide (c < 128 ∧ 0 ≤ c ∧ 0 ≤ x.1 ∧ x.1 ≤ 1000 ∧ 0 ≤ x.2.1 ∧ x.2.1 ≤ k ∧ (x.2.1 = 0 → c ≠ 59 → c ≠ 58 → 48 ≤ c))
def goodE (s : ByteArray) : Bool := (List.range s.size).all fun k => etOk k (sgn s k) (etTo s k)
theorem goodE_at {s : ByteArray} (h : goodE s = true) {k : Nat} (hk : k < s.size) : etOk k (sgn s k) (etTo s k) = true := List.all_eq_true.1 h k (List.mem_range.2 hk)

theorem et_grows (s : ByteArray) (k : Nat) : (etTo s k).2.2 <+: (etTo s (k + 1)).2.2 := by
  rw [etTo]
  generalize etTo s k = x
  obtain ⟨num, nf, out⟩ := x
  unfold etStep
  dsimp only
  split
  · exact ⟨_, rfl⟩
  · split
    · exact List.prefix_refl _
    · split <;> exact List.prefix_refl _
theorem et_le (s : ByteArray) (k d : Nat) : (etTo s k).2.2 <+: (etTo s (k + d)).2.2 := by
  induction d with
  | zero => exact List.prefix_refl _
  | succ d ih => exact ih.trans (et_grows s (k + d))
theorem et_prefix (s : ByteArray) {k m : Nat} (h : k ≤ m) : (etTo s k).2.2 <+: (etTo s m).2.2 := by
  have := et_le s k (m - k)
  rwa [show k + (m - k) = m by omega] at this

/-- The enumerants of a letter. -/
def enumsL (c : Int) : List (Int × ByteArray) := (namesT.filter (isLet c)).map (·.2)

def enumRowOk (p : Int × ByteArray) : Bool := goodE p.2 && decide (p.2.size ≤ 1000) && decide ((etTo p.2 p.2.size).2.2 = enumsL p.1)
theorem enumRows_ok : enumT.all enumRowOk = true := by decide +kernel

theorem lookT_or : ∀ (l : List (Int × ByteArray)) (n : Int), (n, lookT l n) ∈ l ∨ (lookT l n = ⟨#[]⟩ ∧ ∀ k s, (k, s) ∈ l → n ≠ k)
  | [], n => .inr ⟨rfl, fun _ _ h => by cases h⟩
  | (k, s) :: l, n => by
    rw [lookT]
    split
    · rename_i e; subst e; exact .inl List.mem_cons_self
    · rename_i e
      rcases lookT_or l n with h | ⟨h, h2⟩
      · exact .inl (List.mem_cons_of_mem _ h)
      · refine .inr ⟨h, fun k' s' hm => ?_⟩
        rcases List.mem_cons.1 hm with e' | hm
        · cases e'; exact e
        · exact h2 k' s' hm

theorem etext_ok (c : Int) : goodE (lookT enumT c) = true ∧ (lookT enumT c).size ≤ 1000 ∧ (etTo (lookT enumT c) (lookT enumT c).size).2.2 = enumsL c := by
  rcases lookT_or enumT c with h | ⟨h, h2⟩
  · have := List.all_eq_true.1 enumRows_ok _ h
    simp only [enumRowOk, Bool.and_eq_true, decide_eq_true_eq] at this
    exact ⟨this.1.1, this.1.2, this.2⟩
  · rw [h]
    refine ⟨by decide +kernel, by decide, ?_⟩
    have e : namesT.filter (isLet c) = [] := by
      rw [List.filter_eq_nil_iff]
      intro x hx hc
      have h0 := letters_ok
      simp only [lettersOk, Bool.and_eq_true] at h0
      obtain ⟨p, hp, e⟩ := List.any_eq_true.1 (List.all_eq_true.1 h0.1.1 x hx)
      have e := of_decide_eq_true e
      have hc : x.1 = c := by simpa [isLet] using hc
      exact h2 p.1 p.2 hp (by rw [e, hc])
    unfold enumsL
    rw [e]; rfl

theorem enums_any (c : Int) (w : World) :
    Calls Try.prog 8 #[.int .u8 c] w fun e w' => e = .returned (.func (.func 24) #[] #[.pointer (some ⟨w.heap.size, 0, none⟩)]) ∧ w.alloc (.cells #[.int .u8 c] 5) = w' := by
  go_enter Try.func8, Try.ntmps8
  go_wp2
  go_ret
  exact ⟨rfl, rfl⟩

/-- What is told of an enumerant. -/
def enumV (x : Int × ByteArray) : Array Value := #[.int .u32 x.1, .string x.2]

theorem iterAt_put (w : World) (k : Nat) (s : ByteArray) (pos : Nat) : w.iterAt k s pos = w.putObj k (.stringIter s pos) := rfl

set_option maxRecDepth 100000 in
set_option maxHeartbeats 2000000 in
theorem enums_tells (c : Int) (n0 : Nat) (τ : TypeId → Prop) (w : World) (B : Nat) (hB : w.heap[B]? = some (.cells #[.int .u8 c] 5 (0, 0))) :
    Tells Try.prog 24 #[.pointer (some ⟨B, 0, none⟩)] enumV (fun pre x _ => pre ++ [x] <+: enumsL c) n0 τ (fun xs => xs = enumsL c) (fun pre => pre <+: enumsL c) w := by
  intro l J Jx W hW hJ hJx hY h0
  have hBW : W.heap[B]? = some (.cells #[.int .u8 c] 5 (0, 0)) := (hW.block B (Array.getElem?_eq_some_iff.1 hB).1).trans hB
  have hbx : W.cell? ⟨B, 0, none⟩ = some (.int .u8 c) := by simp [World.cell?, hBW]
  obtain ⟨hg, hs, hE⟩ := etext_ok c
  have hT := fun w => enumText_any c w
  generalize lookT enumT c = s at *
  have HG : Hid (goodE s = true) := hg
  have HE : Hid ((etTo s s.size).2.2 = enumsL c) := hE
  clear hg hE hB hW hBW
  refine callsIn_of_wp Try.func24 rfl trivial ?_ rfl
  simp only [Try.ntmps24, List.size_toArray, List.length_cons, List.length_nil, Nat.reduceAdd, Nat.reduceSub, Array.replicate_succ, Array.replicate_zero, List.push_toArray, List.append_toArray, List.nil_append, List.cons_append]
  gi_wp2_with fail
  refine ⟨trivial, rfl, (callsIn_wide.2 (hT _)).mono ?_⟩
  rintro e w' ⟨rfl, rfl⟩
  clear hT
  gi_wp2
  gi_loopw [4, 5] (fun a b wr => ∃ k : Nat, k ≤ s.size ∧ a = .int .u32 (etTo s k).1 ∧ b = .int .i64 (etTo s k).2.1 ∧ J (etTo s k).2.2 wr ∧ wr.heap[W.heap.size]? = some (.stringIter s k)) (fun _ _ wr => left W.heap.size s.size wr)
  case atStart => exact ⟨0, Nat.zero_le _, rfl, rfl, hJ.alloc _ h0, heap_alloc_new W _⟩
  case round =>
    obtain ⟨k, hk, rfl, rfl, hJs, hit⟩ := hrel
    clear h0 hbx
    have HL : Hid (left W.heap.size s.size wr = s.size - k) := left_at hit
    by_cases hlt : k < s.size
    · have hok := goodE_at HG.out hlt
      have HS : Hid (etTo s (k + 1) = etStep s k (sgn s k) (etTo s k)) := rfl
      have hsg := sgn_at s k hlt
      have HPX : Hid ((etTo s (k + 1)).2.2 <+: enumsL c) := by show _ <+: _; rw [← HE.out]; exact et_prefix s hlt
      generalize sgn s k = ch at *
      generalize hrd : etTo s k = x at *
      obtain ⟨num, nf, out⟩ := x
      simp only [etOk, decide_eq_true_eq] at hok
      obtain ⟨o1, o2, o3, o4, o5, o6, o7⟩ := hok
      have hnx := fun ty => run_next_ascii_at (P := Try.prog) _ _ s k ty hit hlt (by omega)
      rw [hsg] at hnx
      obtain ⟨W1, hW1⟩ : ∃ X, X = wr.iterAt W.heap.size s (k + 1) := ⟨_, rfl⟩
      rw [← hW1] at hnx
      have i1 : W1.heap[W.heap.size]? = some (.stringIter s (k + 1)) := by rw [hW1]; exact iterAt_heap _ _ _ _ _ hit
      have hJ1 : J out W1 := by rw [hW1, iterAt_put]; exact hJ.putObj _ hJs (Nat.le_refl _) hit rfl
      have HI : Hid (W1.heap[W.heap.size]? = some (.stringIter s (k + 1))) := i1
      have HJ1 : Hid (J out W1) := hJ1
      clear hW1 hit hJs hsg hrd i1 hJ1
      by_cases h59 : ch = 59
      · subst h59
        have HN : Hid (etTo s (k + 1) = (0, 0, out ++ [(num, s.extract nf.toNat k)])) := by show _ = _; rw [HS.out]; simp [etStep]
        have hpx := HPX.out
        rw [HN.out] at hpx
        obtain ⟨fn, tmps, assign, body, hy, hR⟩ := hY out (num, s.extract nf.toNat k) W1 HJ1.out hpx
        simp only [enumV] at hy
        clear HS hpx o7 HPX
        gi_wp2_with fail
        refine ⟨rfl, hR.mono ?_⟩
        rintro e W3 ⟨hkf, ⟨rfl, hJ3, hk3⟩ | ⟨rfl, hJx3⟩⟩
        · have HI3 : Hid (W3.heap[W.heap.size]? = some (.stringIter s (k + 1))) := hkf.same _ _ (Nat.le_refl _) HI.out rfl
          have HJ3 : Hid (J (out ++ [(num, s.extract nf.toNat k)]) W3) := hJ3
          clear hy hR hY hkf hk3 hJ3
          gi_wp2
          go_roundw
          case rel => exact ⟨k + 1, by omega, by rw [HN.out], by rw [HN.out], by rw [HN.out]; exact HJ3.out, HI3.out⟩
          case measure => rw [HL.out, left_at HI3.out]; omega
        · have hp : out ++ [(num, s.extract nf.toNat k)] <+: enumsL c := by have := et_prefix s hlt; rw [HN.out] at this; rw [← HE.out]; exact this
          have HP : Hid (out ++ [(num, s.extract nf.toNat k)] <+: enumsL c) := hp
          clear hy hR hY hkf hp
          gi_wp2
          refine bodyPost_ret (results_none rfl _ _ _) rfl ?_
          exact ⟨⟨_, rfl⟩, .inr ⟨_, HP.out, hJx3⟩⟩
      · have h59' : (ch == 59) = false := by simpa using h59
        clear hY
        by_cases h58 : ch = 58
        · subst h58
          have HN : Hid (etTo s (k + 1) = (num, (k : Int) + 1, out)) := by show _ = _; rw [HS.out]; simp [etStep]
          clear HS o7 HPX h59
          gi_wp2
          go_roundw
          case rel => exact ⟨k + 1, by omega, by rw [HN.out], by rw [HN.out], by rw [HN.out]; exact HJ1.out, HI.out⟩
          case measure => rw [HL.out, left_at HI.out]; omega
        · have h58' : (ch == 58) = false := by simpa using h58
          by_cases hn : nf = 0
          · subst hn
            have hd := o7 rfl h59 h58
            have HN : Hid (etTo s (k + 1) = (10 * num + (ch - 48), 0, out)) := by show _ = _; rw [HS.out]; simp [etStep, h59, h58]
            clear HS o7 HPX h59 h58 o6 o5
            gi_wp2
            go_roundw
            case rel => exact ⟨k + 1, by omega, by rw [HN.out], by rw [HN.out], by rw [HN.out]; exact HJ1.out, HI.out⟩
            case measure => rw [HL.out, left_at HI.out]; omega
          · have hn' : (nf == 0) = false := by simpa using hn
            have HN : Hid (etTo s (k + 1) = (num, nf, out)) := by show _ = _; rw [HS.out]; simp [etStep, h59, h58, hn]
            clear HS o7 HPX h59 h58 hn
            gi_wp2
            go_roundw
            case rel => exact ⟨k + 1, by omega, by rw [HN.out], by rw [HN.out], by rw [HN.out]; exact HJ1.out, HI.out⟩
            case measure => rw [HL.out, left_at HI.out]; omega
    · have hnx := fun ty => run_next_end_at (P := Try.prog) _ _ s k ty hit hlt
      obtain rfl : k = s.size := by omega
      have hJe : J (enumsL c) wr := by rw [← HE.out]; exact hJs
      have HJe : Hid (J (enumsL c) wr) := hJe
      generalize etTo s s.size = x at *
      obtain ⟨num, nf, out⟩ := x
      clear hJs hJe hit hY
      gi_wp2
      go_end0
      exact ⟨⟨_, rfl⟩, .inl HJe.out⟩

end Go.Proofs.Ytjpbiakbjpiceab
