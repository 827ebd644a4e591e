/-
  What Find of the document's answer returns, of at most 1048576 words.
-/
import Derived.WalkSpells
import Derived.Test.YtckpijgnkkjfkaaRef02Places
namespace Go.Proofs.Ytckpijgnkkjfkaa
open Go.RowKit

theorem find_at (P : Nat → Bool) : ∀ (l : List Nat) (k : Nat), k < l.length → (∀ j, j < k → P (l.getD j 0) = false) → P (l.getD k 0) = true → l.find? P = some (l.getD k 0)
  | [], k, h, _, _ => by simp at h
  | x :: l, 0, _, _, h => by
    have h' : P x = true := h
    simp [h']
  | x :: l, k + 1, h, hb, hk => by
    have h0 : P x = false := hb 0 (by omega)
    have ih := find_at P l k (by simpa using h) (fun j hj => hb (j + 1) (by omega)) hk
    rw [List.find?_cons, h0]
    exact ih
theorem find_none (P : Nat → Bool) (l : List Nat) (h : ∀ j, j < l.length → P (l.getD j 0) = false) : l.find? P = none := by
  rw [List.find?_eq_none]
  intro x hx
  obtain ⟨j, hj, rfl⟩ := List.getElem_of_mem hx
  have := h j hj
  simp [List.getD, hj] at this
  simp [this]

/-- Is it an instruction of this operation, not ahead of that place? -/
def isAt (zs : List Int) (op from_ : Int) (q : Nat) : Bool := decide (from_ ≤ (q : Int)) && (opI zs q == op)
/-- The first one. -/
def findP (zs : List Int) (op from_ : Int) : Option Nat := (rest zs 5).find? (isAt zs op from_)
def findAt (zs : List Int) (op from_ : Int) : Int := match findP zs op from_ with | some q => (q : Int) | none => 0
def findIs (zs : List Int) (op from_ : Int) : Bool := (findP zs op from_).isSome

theorem findAt_some {zs : List Int} {op f : Int} {q : Nat} (h : findP zs op f = some q) : findAt zs op f = q := by unfold findAt; rw [h]
theorem findAt_none {zs : List Int} {op f : Int} (h : findP zs op f = none) : findAt zs op f = 0 := by unfold findAt; rw [h]
theorem findIs_some {zs : List Int} {op f : Int} {q : Nat} (h : findP zs op f = some q) : findIs zs op f = true := by unfold findIs; rw [h]; rfl
theorem findIs_none {zs : List Int} {op f : Int} (h : findP zs op f = none) : findIs zs op f = false := by unfold findIs; rw [h]; rfl

theorem ret_pair {k : IntKind} {a b : Int} {x y : Bool} (h : a = b) (h2 : x = y) : Ending.returned (.tuple #[.int k a, .bool x]) = .returned (.tuple #[.int k b, .bool y]) := by rw [h, h2]

set_option maxHeartbeats 1000000 in
theorem refFind_any (a : Option Addr) (n cap : Nat) (zs : List Int) (w : World) (op from_ : Int) (ha : View .u32 w a zs) (hl : zs.length = n) (hw : Within 4294967296 zs) (hn : n ≤ 1048576) :
    Calls Try.prog 26 #[.slice a n cap, .int .u16 op, .int .i64 from_] w fun e w' => e = .returned (.tuple #[.int .i64 (findAt zs op from_), .bool (findIs zs op from_)]) ∧ Below w.heap.size w w' := by
  have HL : Hid (zs.length = n) := hl
  go_enter Try.func26, Try.ntmps26
  go_wp2_with fail
  refine (refPlaces_any a n cap zs w ha hl hw hn).mono ?_
  rintro e w1 ⟨ax, cx, m, rfl, hm, hown, hb⟩
  have hvp := View.ofOwn hown (by rw [natI_len]; exact hm)
  have hva := ha.below hb
  have HM : Hid ((rest zs 5).length = m) := hm
  have hmn : m ≤ n := by have := rest_len zs 5; rw [HL.out] at this; omega
  clear hown ha hl hm
  go_wp2
  go_loopw [9] (fun i wr => ∃ k qd : Nat, k ≤ m ∧ i = .int .i64 k ∧ wr = w1.drewN qd ∧ ∀ j, j < k → isAt zs op from_ ((rest zs 5).getD j 0) = false) (fun i _ => m - (intOf i).toNat)
  case atStart => exact ⟨0, 0, Nat.zero_le _, rfl, rfl, fun j hj => by omega⟩
  case round =>
    obtain ⟨k, qd, hk, rfl, rfl, hno⟩ := hrel
    have HN : Hid (∀ j, j < k → isAt zs op from_ ((rest zs 5).getD j 0) = false) := hno
    clear hno
    by_cases hlt : k < m
    · obtain ⟨b1, o1, rfl, _, c1⟩ := hvp k (by rw [natI_len, HM.out]; exact hlt)
      rw [nth_natI _ _ (by rw [HM.out]; exact hlt)] at c1
      have hq := rest_mem zs 5 ((rest zs 5).getD k 0) (by
        have hk' : k < (rest zs 5).length := by rw [HM.out]; exact hlt
        have : (rest zs 5).getD k 0 = (rest zs 5)[k] := by simp [List.getD, hk']
        rw [this]; exact List.getElem_mem hk')
      have HA : Hid (isAt zs op from_ ((rest zs 5).getD k 0) = true → findP zs op from_ = some ((rest zs 5).getD k 0)) := fun h => find_at _ _ k (by rw [HM.out]; exact hlt) HN.out h
      have HB : Hid (isAt zs op from_ ((rest zs 5).getD k 0) = false → ∀ j, j < k + 1 → isAt zs op from_ ((rest zs 5).getD j 0) = false) := fun h j hj => by
        by_cases e : j = k
        · subst e; exact h
        · exact HN.out j (by omega)
      obtain ⟨q, hqe⟩ : ∃ q, q = (rest zs 5).getD k 0 := ⟨_, rfl⟩
      rw [← hqe] at c1 hq HA HB
      have hqn : q < n := by have := hq.2.1; rw [HL.out] at this; exact this
      obtain ⟨b2, o2, rfl, _, c2⟩ := hva q (by rw [HL.out]; exact hqn)
      have hx := hw.at (k := q) (by rw [HL.out]; exact hqn)
      have HI : Hid (isAt zs op from_ q = (decide (from_ ≤ (q : Int)) && (nth zs q % 65536 == op))) := rfl
      generalize nth zs q = x at c2 hx HI
      have hx0 := hx.1
      have hx1 := hx.2
      have hqi : (q : Int) < (n : Int) := by omega
      have hki : (k : Int) < (m : Int) := by omega
      clear hqe hq hvp hva hx hw HN
      by_cases hf : from_ ≤ (q : Int)
      · have hf' : decide (from_ ≤ (q : Int)) = true := decide_eq_true hf
        by_cases hop : x % 65536 = op
        · have hop' : (x % 65536 == op) = true := by simpa using hop
          have HP : Hid (findP zs op from_ = some q) := HA.out (by rw [HI.out, hf', hop']; rfl)
          clear hf hop HA HB HI
          go_wp2
          go_ret2
          exact ⟨ret_pair (findAt_some HP.out).symm (findIs_some HP.out).symm, bel_drewN hb _⟩
        · have hop' : (x % 65536 == op) = false := by simpa using hop
          have HP : Hid (∀ j, j < k + 1 → isAt zs op from_ ((rest zs 5).getD j 0) = false) := HB.out (by rw [HI.out, hf', hop']; rfl)
          clear hf hop HA HB HI
          go_wp2
          go_roundw
          case rel => exact ⟨k + 1, qd, by omega, by go_num, rfl, HP.out⟩
          case measure => simp [intOf]; omega
      · have hf' : decide (from_ ≤ (q : Int)) = false := decide_eq_false hf
        have HP : Hid (∀ j, j < k + 1 → isAt zs op from_ ((rest zs 5).getD j 0) = false) := HB.out (by rw [HI.out, hf']; rfl)
        clear hf HA HB HI
        go_wp2
        go_roundw
        case rel => exact ⟨k + 1, qd, by omega, by go_num, rfl, HP.out⟩
        case measure => simp [intOf]; omega
    · have HP : Hid (findP zs op from_ = none) := find_none _ _ (fun j hj => HN.out j (by rw [HM.out] at hj; omega))
      go_wp2
      go_ret2
      exact ⟨ret_pair (findAt_none HP.out).symm (findIs_none HP.out).symm, bel_drewN hb _⟩

end Go.Proofs.Ytckpijgnkkjfkaa
