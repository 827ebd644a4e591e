/-
  What Count, Ends and Wrong of the document's answer return.
-/
import Derived.WalkSpells
import Derived.Test.YtckpijgnkkjfkaaProg
import Derived.Test.YtckpijgnkkjfkaaMathF
namespace Go.Proofs.Ytckpijgnkkjfkaa
open Go.RowKit

theorem refCount_any (a : Option Addr) (n cap : Nat) (zs : List Int) (w : World) (p : Nat) (ha : View .u32 w a zs) (hl : zs.length = n) (hw : Within 4294967296 zs) (hp : p < n) :
    Calls Try.prog 25 #[.slice a n cap, .int .i64 p] w fun e w' => e = .returned (.int .i64 (cntN zs p)) ∧ w = w' := by
  obtain ⟨b, off, rfl, _, hc⟩ := ha p (by omega)
  have hx := hw.at (k := p) (by omega)
  have HC : Hid (nth zs p / 65536 = (cntN zs p : Int)) := cntN_int zs p hx.1
  have hpi : (p : Int) < (n : Int) := by omega
  clear ha hl hw
  generalize nth zs p = x at hc hx HC
  have hx0 := hx.1
  have hx1 := hx.2
  go_enter Try.func25, Try.ntmps25
  go_wp2
  go_ret
  exact ⟨ret_int HC.out, rfl⟩

theorem refEnds_yes (a : Option Addr) (n cap : Nat) (zs : List Int) (w : World) (p : Nat) (ha : View .u32 w a zs) (hl : zs.length = n) (hw : Within 4294967296 zs) (hn : 4 * n ≤ 140737488351232) (hp : p < n) (h : badB zs p = false) :
    Calls Try.prog 29 #[.slice a n cap, .int .i64 p] w fun e w' => e = .returned (.tuple #[.int .i64 ((p + cntN zs p : Nat) : Int), .bool true]) ∧ w = w' := by
  have hC := fun wx hv => refCount_any a n cap zs wx p hv hl hw hp
  have h1 := cnt_pos h
  have h2 := cnt_fits h
  rw [hl] at h2
  have hCw := hC w ha
  clear hC ha hl hw h
  generalize cntN zs p = c at *
  have hc0 : ((c : Int) == 0) = false := by simp; omega
  have hc1 : decide ((n : Int) - (p : Int) < (c : Int)) = false := decide_eq_false (by omega)
  go_enter Try.func29, Try.ntmps29
  go_wp2_with fail
  refine hCw.mono ?_
  rintro e w' ⟨rfl, rfl⟩
  go_wp2
  go_ret2
  exact ⟨rfl, rfl⟩

theorem refEnds_no (a : Option Addr) (n cap : Nat) (zs : List Int) (w : World) (p : Nat) (ha : View .u32 w a zs) (hl : zs.length = n) (hw : Within 4294967296 zs) (hn : 4 * n ≤ 140737488351232) (hp : p < n) (h : badB zs p = true) :
    Calls Try.prog 29 #[.slice a n cap, .int .i64 p] w fun e w' => e = .returned (.tuple #[.int .i64 0, .bool false]) ∧ w = w' := by
  have hCw := refCount_any a n cap zs w p ha hl hw hp
  have h' : cntN zs p = 0 ∨ n < p + cntN zs p := by unfold badB at h; rw [hl] at h; simpa using h
  clear ha hl hw h
  generalize cntN zs p = c at *
  by_cases hz : c = 0
  · subst hz
    go_enter Try.func29, Try.ntmps29
    go_wp2_with fail
    refine hCw.mono ?_
    rintro e w' ⟨rfl, rfl⟩
    go_wp2
    go_ret2
    exact ⟨rfl, rfl⟩
  · have hc0 : ((c : Int) == 0) = false := by simp; omega
    have hc1 : decide ((n : Int) - (p : Int) < (c : Int)) = true := decide_eq_true (by omega)
    clear h' hz
    go_enter Try.func29, Try.ntmps29
    go_wp2_with fail
    refine hCw.mono ?_
    rintro e w' ⟨rfl, rfl⟩
    go_wp2
    go_ret2
    exact ⟨rfl, rfl⟩

end Go.Proofs.Ytckpijgnkkjfkaa
