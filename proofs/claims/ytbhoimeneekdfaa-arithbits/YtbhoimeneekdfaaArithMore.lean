/-
  What Field of arith answers, for all operations and words.
-/
import Derived.WalkSpells
import Derived.WalkMore
import Derived.BigRegion
import Derived.BigQuiet
import Derived.Deep.QuietTactic
import Derived.Laws.EntriesVeiled
import Derived.Test.YtbhoimeneekdfaaArithFields
import Derived.Test.YtbhoimeneekdfaaArithArity
import Derived.Test.YtbhoimeneekdfaaArithMaps
import Derived.Test.YtbhoimeneekdfaaRaws
namespace Go.Proofs.Ytbhoimeneekdfaa
open Go.RowKit Go.Maps
set_option linter.unusedVariables false
set_option linter.unusedSimpArgs false
set_option maxRecDepth 10000

/-- What an operation of three or four words makes. -/
def moV (op : Int) (zs : List Int) : Int :=
  if op = 169 then (if nth zs 0 = 0 then nth zs 2 else nth zs 1)
  else if op = 201 then hB (inB (nth zs 0) (nth zs 1) (offN (nth zs 2)) (widN (offN (nth zs 2)) (nth zs 3))) 32 0
  else if op = 202 then hB (sfB (nth zs 0) (offN (nth zs 1)) (widN (offN (nth zs 1)) (nth zs 2))) 32 0
  else if op = 203 then hB (flB (nth zs 0) (offN (nth zs 1)) (widN (offN (nth zs 1)) (nth zs 2))) 32 0 else 0
def moB (op : Int) : Bool := decide (op = 169 ∨ op = 201 ∨ op = 202 ∨ op = 203)
/-- The cells of a list of words. -/
theorem view_at {w : World} {a : Option Addr} {zs : List Int} (h : View .u32 w a zs) (h0 : 0 < zs.length) : ∃ b off, a = some ⟨b, off, none⟩ ∧ ∀ j, j < zs.length → w.cell? ⟨b, off + j, none⟩ = some (.int .u32 (nth zs j)) := by
  obtain ⟨b, off, rfl, _, _⟩ := h 0 h0
  refine ⟨b, off, rfl, fun j hj => ?_⟩
  obtain ⟨b', off', e, _, hc⟩ := h j hj
  simp only [Option.some.injEq, Addr.mk.injEq, and_true] at e
  obtain ⟨rfl, rfl⟩ := e
  exact hc

set_option maxHeartbeats 4000000 in
theorem ofMore1_any (a : Option Addr) (len cap : Nat) (zs : List Int) (w : World) (hv : View .u32 w a zs) (hw : Within 4294967296 zs) (hl : zs.length = len) (hn : len = 3) : Calls Try.prog 40 #[.slice a len cap] w fun e w' => e = .returned (.int .u32 (moV 169 zs)) ∧ ∃ q, w' = w.drewN q := by
  subst hn
  obtain ⟨b, off, rfl, hc⟩ := view_at hv (by omega)
  have c0 := hc 0 (by omega)
  have i0 := hw.at (k := 0) (by omega)
  have c1 := hc 1 (by omega)
  have i1 := hw.at (k := 1) (by omega)
  have c2 := hc 2 (by omega)
  have i2 := hw.at (k := 2) (by omega)
  rw [Nat.add_zero] at c0
  have hS := fun q => selected_any (nth zs 0) (nth zs 1) (nth zs 2) (w.drewN q)
  have hV : moV 169 zs = if nth zs 0 = 0 then nth zs 2 else nth zs 1 := rfl
  rw [hV]
  generalize (if nth zs 0 = 0 then nth zs 2 else nth zs 1) = V at *
  clear hv hw hl hc hV
  generalize nth zs 0 = z0 at *
  generalize nth zs 1 = z1 at *
  generalize nth zs 2 = z2 at *
  go_enter Try.func40, Try.ntmps40
  go_wp2_with fail
  go_quiet ((go_at_call 41; exact Calls.quiet_of_same ((hS _).mono fun _ _ h => ⟨h.1, h.2.symm⟩)))
  go_wp2
  go_ret
  exact ⟨rfl, _, rfl⟩

set_option maxHeartbeats 4000000 in
theorem ofMore2_any (a : Option Addr) (len cap : Nat) (zs : List Int) (w : World) (hv : View .u32 w a zs) (hw : Within 4294967296 zs) (hl : zs.length = len) (hn : len = 4) : Calls Try.prog 42 #[.slice a len cap] w fun e w' => e = .returned (.int .u32 (moV 201 zs)) ∧ ∃ q, w' = w.drewN q := by
  subst hn
  obtain ⟨b, off, rfl, hc⟩ := view_at hv (by omega)
  have c0 := hc 0 (by omega)
  have i0 := hw.at (k := 0) (by omega)
  have c1 := hc 1 (by omega)
  have i1 := hw.at (k := 1) (by omega)
  have c2 := hc 2 (by omega)
  have i2 := hw.at (k := 2) (by omega)
  have c3 := hc 3 (by omega)
  have i3 := hw.at (k := 3) (by omega)
  rw [Nat.add_zero] at c0
  have hS := fun q => inserted_any (nth zs 0) (nth zs 1) (nth zs 2) (nth zs 3) (w.drewN q) i0.1 i0.2 i1.1 i1.2 i2.1 i3.1 i3.2
  have hV : moV 201 zs = hB (inB (nth zs 0) (nth zs 1) (offN (nth zs 2)) (widN (offN (nth zs 2)) (nth zs 3))) 32 0 := rfl
  rw [hV]
  generalize (hB (inB (nth zs 0) (nth zs 1) (offN (nth zs 2)) (widN (offN (nth zs 2)) (nth zs 3))) 32 0) = V at *
  clear hv hw hl hc hV
  generalize nth zs 0 = z0 at *
  generalize nth zs 1 = z1 at *
  generalize nth zs 2 = z2 at *
  generalize nth zs 3 = z3 at *
  go_enter Try.func42, Try.ntmps42
  go_wp2_with fail
  go_quiet ((go_at_call 43; exact Calls.quiet_of_same ((hS _).mono fun _ _ h => ⟨h.1, h.2.symm⟩)))
  go_wp2
  go_ret
  exact ⟨rfl, _, rfl⟩

set_option maxHeartbeats 4000000 in
theorem ofMore3_any (a : Option Addr) (len cap : Nat) (zs : List Int) (w : World) (hv : View .u32 w a zs) (hw : Within 4294967296 zs) (hl : zs.length = len) (hn : len = 3) : Calls Try.prog 44 #[.slice a len cap] w fun e w' => e = .returned (.int .u32 (moV 202 zs)) ∧ ∃ q, w' = w.drewN q := by
  subst hn
  obtain ⟨b, off, rfl, hc⟩ := view_at hv (by omega)
  have c0 := hc 0 (by omega)
  have i0 := hw.at (k := 0) (by omega)
  have c1 := hc 1 (by omega)
  have i1 := hw.at (k := 1) (by omega)
  have c2 := hc 2 (by omega)
  have i2 := hw.at (k := 2) (by omega)
  rw [Nat.add_zero] at c0
  have hS := fun q => signedField_any (nth zs 0) (nth zs 1) (nth zs 2) (w.drewN q) i0.1 i0.2 i1.1 i2.1 i2.2
  have hV : moV 202 zs = hB (sfB (nth zs 0) (offN (nth zs 1)) (widN (offN (nth zs 1)) (nth zs 2))) 32 0 := rfl
  rw [hV]
  generalize (hB (sfB (nth zs 0) (offN (nth zs 1)) (widN (offN (nth zs 1)) (nth zs 2))) 32 0) = V at *
  clear hv hw hl hc hV
  generalize nth zs 0 = z0 at *
  generalize nth zs 1 = z1 at *
  generalize nth zs 2 = z2 at *
  go_enter Try.func44, Try.ntmps44
  go_wp2_with fail
  go_quiet ((go_at_call 45; exact Calls.quiet_of_same ((hS _).mono fun _ _ h => ⟨h.1, h.2.symm⟩)))
  go_wp2
  go_ret
  exact ⟨rfl, _, rfl⟩

set_option maxHeartbeats 4000000 in
theorem ofMore4_any (a : Option Addr) (len cap : Nat) (zs : List Int) (w : World) (hv : View .u32 w a zs) (hw : Within 4294967296 zs) (hl : zs.length = len) (hn : len = 3) : Calls Try.prog 46 #[.slice a len cap] w fun e w' => e = .returned (.int .u32 (moV 203 zs)) ∧ ∃ q, w' = w.drewN q := by
  subst hn
  obtain ⟨b, off, rfl, hc⟩ := view_at hv (by omega)
  have c0 := hc 0 (by omega)
  have i0 := hw.at (k := 0) (by omega)
  have c1 := hc 1 (by omega)
  have i1 := hw.at (k := 1) (by omega)
  have c2 := hc 2 (by omega)
  have i2 := hw.at (k := 2) (by omega)
  rw [Nat.add_zero] at c0
  have hS := fun q => field_any (nth zs 0) (nth zs 1) (nth zs 2) (w.drewN q) i0.1 i0.2 i1.1 i2.1 i2.2
  have hV : moV 203 zs = hB (flB (nth zs 0) (offN (nth zs 1)) (widN (offN (nth zs 1)) (nth zs 2))) 32 0 := rfl
  rw [hV]
  generalize (hB (flB (nth zs 0) (offN (nth zs 1)) (widN (offN (nth zs 1)) (nth zs 2))) 32 0) = V at *
  clear hv hw hl hc hV
  generalize nth zs 0 = z0 at *
  generalize nth zs 1 = z1 at *
  generalize nth zs 2 = z2 at *
  go_enter Try.func46, Try.ntmps46
  go_wp2_with fail
  go_quiet ((go_at_call 47; exact Calls.quiet_of_same ((hS _).mono fun _ _ h => ⟨h.1, h.2.symm⟩)))
  go_wp2
  go_ret
  exact ⟨rfl, _, rfl⟩

/-- A function of three or four words. -/
def MoreN (op : Int) (n : Nat) : Prop := Enters n ∧ ∀ (a : Option Addr) (len cap : Nat) (zs : List Int) (W : World), View .u32 W a zs → Within 4294967296 zs → zs.length = len → (len : Int) = arV op → Calls Try.prog n #[.slice a len cap] W fun e w' => e = .returned (.int .u32 (moV op zs)) ∧ ∃ q, w' = W.drewN q
theorem ar169 : arV 169 = 3 := by decide +kernel
theorem ar201 : arV 201 = 4 := by decide +kernel
theorem ar202 : arV 202 = 3 := by decide +kernel
theorem ar203 : arV 203 = 3 := by decide +kernel
theorem ofMoreV_q (op : Int) : (moB op = false ∧ (∀ zs, moV op zs = 0) ∧ ofMoreV op = .nilFunc) ∨ ∃ n, ofMoreV op = .func (.func n) #[] #[] ∧ moB op = true ∧ MoreN op n := by
  by_cases e169 : op = 169
  · subst e169; exact .inr ⟨40, rfl, rfl, Try.call40, fun a len cap zs W h1 h2 h3 h4 => ofMore1_any a len cap zs W h1 h2 h3 (by rw [ar169] at h4; omega)⟩
  by_cases e201 : op = 201
  · subst e201; exact .inr ⟨42, rfl, rfl, Try.call42, fun a len cap zs W h1 h2 h3 h4 => ofMore2_any a len cap zs W h1 h2 h3 (by rw [ar201] at h4; omega)⟩
  by_cases e202 : op = 202
  · subst e202; exact .inr ⟨44, rfl, rfl, Try.call44, fun a len cap zs W h1 h2 h3 h4 => ofMore3_any a len cap zs W h1 h2 h3 (by rw [ar202] at h4; omega)⟩
  by_cases e203 : op = 203
  · subst e203; exact .inr ⟨46, rfl, rfl, Try.call46, fun a len cap zs W h1 h2 h3 h4 => ofMore4_any a len cap zs W h1 h2 h3 (by rw [ar203] at h4; omega)⟩
  exact .inl ⟨by simp [moB, e169, e201, e202, e203], fun zs => by simp [moV, e169, e201, e202, e203], by simp [ofMoreV, e169, e201, e202, e203]⟩

/-- What Field answers. -/
def fiV (op : Int) (zs : List Int) : Int := if moB op = true ∧ (zs.length : Int) = arV op then moV op zs else 0
def fiB (op : Int) (zs : List Int) : Bool := moB op && decide ((zs.length : Int) = arV op)

set_option maxHeartbeats 4000000 in
theorem arithField_any (op : Int) (a : Option Addr) (len cap : Nat) (zs : List Int) (w : World) (h0 : 0 ≤ op) (h1 : op < 65536) (hv : View .u32 w a zs) (hw : Within 4294967296 zs) (hl : zs.length = len) : Calls Try.prog 11 #[.int .u16 op, .slice a len cap] w fun e w' => e = .returned (.tuple #[.int .u32 (fiV op zs), .bool (fiB op zs)]) ∧ Below w.heap.size w w' := by
  have hE := nilzeroFn3
  have hE2 := somezeroFn3
  have hO := ofMore_any op w h0 h1
  have hA := fun w => arity_any op w
  rcases ofMoreV_q op with ⟨q1, q2, q3⟩ | ⟨n, q1, q2, q3⟩
  · have e1 : fiV op zs = 0 := by simp [fiV, q1]
    have e2 : fiB op zs = false := by simp [fiB, q1]
    rw [q3] at hO
    rw [e1, e2]
    go_enter Try.func11, Try.ntmps11
    go_wp2_with fail
    refine hO.mono ?_
    rintro e w' ⟨rfl, hb⟩
    go_wp2
    go_ret2
    exact ⟨rfl, hb⟩
  · have hEn := q3.1
    unfold Enters at hEn
    rw [q1] at hO
    by_cases hL : (len : Int) = arV op
    · have hC := fun W hW => q3.2 a len cap zs W hW hw hl hL
      have e1 : fiV op zs = moV op zs := by unfold fiV; rw [if_pos ⟨q2, by rw [hl]; exact hL⟩]
      have e2 : fiB op zs = true := by unfold fiB; rw [q2, hl]; simp [hL]
      rw [e1, e2]
      rw [← hL] at hA
      clear hL e1 e2 q1 q3
      generalize moV op zs = X at *
      go_enter Try.func11, Try.ntmps11
      go_wp2_with fail
      refine hO.mono ?_
      rintro e w1 ⟨rfl, hb1⟩
      go_wp2_with fail
      refine (hA _).mono ?_
      rintro e w2 ⟨rfl, hb2⟩
      have hb := hb1.trans (hb2.mono hb1.size)
      have hv2 := hv.below hb
      go_wp2_with fail
      refine (hC _ hv2).mono ?_
      rintro e w3 ⟨rfl, q, rfl⟩
      go_wp2
      go_ret2
      exact ⟨rfl, bel_drewN hb q⟩
    · have e1 : fiV op zs = 0 := by unfold fiV; rw [if_neg (by rw [hl]; intro h; exact hL h.2)]
      have e2 : fiB op zs = false := by unfold fiB; rw [q2, hl]; simp [hL]
      rw [e1, e2]
      generalize arV op = N at *
      go_enter Try.func11, Try.ntmps11
      go_wp2_with fail
      refine hO.mono ?_
      rintro e w1 ⟨rfl, hb1⟩
      go_wp2_with fail
      refine (hA _).mono ?_
      rintro e w2 ⟨rfl, hb2⟩
      go_wp2
      go_ret2
      exact ⟨rfl, hb1.trans (hb2.mono hb1.size)⟩

end Go.Proofs.Ytbhoimeneekdfaa
