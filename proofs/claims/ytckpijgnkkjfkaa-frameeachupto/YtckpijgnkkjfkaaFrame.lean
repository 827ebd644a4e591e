/-
  What the calls of layer 2 answer, as functions on lists; what the document's answer returns; and what is asked of the program's calls (as conditions, each proved where the program's text is walked).
-/
import Derived.Test.YtckpijgnkkjfkaaRef02Read
import Derived.Test.YtckpijgnkkjfkaaRef02Write
import Derived.Test.YtckpijgnkkjfkaaRef02Find
import Derived.Test.YtckpijgnkkjfkaaLaw02Apart
namespace Go.Proofs.Ytckpijgnkkjfkaa
open Go.RowKit

def readL (zs : List Int) : List (Int × List Int) := if (readE zs).1 = 0 then readR zs else []
def readAt (zs : List Int) (i : Nat) : Int := if (readE zs).1 = 0 then nth zs i else 0
def writeE (bound : Int) (rs : List (Int × List Int)) : Int × Nat := if bound = 0 ∨ 65536 < bound then (24, 0) else fault rs 0
def writeL (gen bound : Int) (rs : List (Int × List Int)) : List Int := if (writeE bound rs).1 = 0 then writeTo gen bound rs rs.length else []

theorem refRead_any (a : Option Addr) (n cap : Nat) (zs : List Int) (w : World) (ha : View .u32 w a zs) (hl : zs.length = n) (hw : Within 4294967296 zs) :
    Calls Try.prog 9 #[.slice a n cap] w fun e w' => Below w.heap.size w w' ∧ ∃ ax cx m, e = .returned (.tuple #[.agg #[.int .u32 (readAt zs 2), .int .u32 (readAt zs 3)], .slice ax m cx, .agg #[.int .i64 (readE zs).1, .int .i64 (readE zs).2]]) ∧ (readL zs).length = m ∧ RawsV w' ax (readL zs) := by
  by_cases h1 : 1048576 < n
  · have e1 : readE zs = (4, 1048576) := by unfold readE; rw [if_pos (by omega)]
    refine (refRead_large a n cap w h1).mono ?_
    rintro e w' ⟨rfl, hb⟩
    refine ⟨hb, none, 0, 0, ?_, ?_, ?_⟩
    · simp [readAt, e1]
    · simp [readL, e1]
    · simp only [readL, e1]; exact rawsV_nil
  · by_cases h2 : (headE zs 0).1 = 0
    · refine (refRead_body a n cap zs w ha hl hw (by omega) h2).mono ?_
      rintro e w' ⟨hb, ⟨h3, rfl⟩ | ⟨h3, ax, cx, m, rfl, h4, h5⟩⟩
      · have e1 : readE zs = (25, stop zs 5) := by unfold readE; rw [if_neg (by omega), if_neg (by simp [h2]), if_pos (by omega)]
        refine ⟨hb, none, 0, 0, ?_, ?_, ?_⟩
        · simp [readAt, e1]
        · simp [readL, e1]
        · simp only [readL, e1]; exact rawsV_nil
      · have e1 : readE zs = (0, 0) := by unfold readE; rw [if_neg (by omega), if_neg (by simp [h2]), if_neg (by omega)]
        refine ⟨hb, ax, cx, m, ?_, ?_, ?_⟩
        · simp [readAt, e1]
        · simp [readL, e1, h4]
        · simp only [readL, e1]; exact h5
    · have e1 : readE zs = headE zs 0 := by unfold readE; rw [if_neg (by omega), if_pos h2]
      refine (refRead_head a n cap zs w ha hl (by omega) h2).mono ?_
      rintro e w' ⟨rfl, hb⟩
      refine ⟨hb, none, 0, 0, ?_, ?_, ?_⟩
      · simp [readAt, e1, h2]
      · simp [readL, e1, h2]
      · simp only [readL, e1, h2, if_false]; exact rawsV_nil

theorem refWrite_any (gen bound : Int) (a : Option Addr) (n cap : Nat) (rs : List (Int × List Int)) (w : World) (hb0 : 0 ≤ bound) (ha : RawsV w a rs) (hok : RawsOk rs) (hl : rs.length = n) (hn : 32 * n ≤ 140737488351232) :
    Calls Try.prog 17 #[.agg #[.int .u32 gen, .int .u32 bound], .slice a n cap] w fun e w' => Below w.heap.size w w' ∧ ∃ ax cx m, e = .returned (.tuple #[.slice ax m cx, .agg #[.int .i64 (writeE bound rs).1, .int .i64 (writeE bound rs).2]]) ∧ (writeL gen bound rs).length = m ∧
      w'.ownsRow w.heap.size 23 1 (.slice ax m cx) m ((writeL gen bound rs).map (Value.int .u32)) := by
  by_cases h1 : bound = 0 ∨ 65536 < bound
  · have e1 : writeE bound rs = (24, 0) := by unfold writeE; rw [if_pos h1]
    refine (refWrite_bound gen bound a n cap w hb0 h1).mono ?_
    rintro e w' ⟨rfl, hb⟩
    refine ⟨hb, none, 0, 0, ?_, ?_, ?_⟩
    · simp [e1]
    · simp [writeL, e1]
    · simp only [writeL, e1]; exact World.ownsRow_nil _ _ _ _
  · have e1 : writeE bound rs = fault rs 0 := by unfold writeE; rw [if_neg h1]
    by_cases h2 : (fault rs 0).1 = 0
    · refine (refWrite_ok gen bound a n cap rs w (by omega) (by omega) ha hok hl hn h2).mono ?_
      rintro e w' ⟨ax, cx, m, rfl, h3, h4, hb⟩
      have e2 : writeL gen bound rs = writeTo gen bound rs n := by unfold writeL; rw [e1, if_pos h2, hl]
      have e3 : fault rs 0 = (0, 0) := by
        have key : ∀ f k, faultF rs f k = (0, 0) ∨ (faultF rs f k).1 ≠ 0 := by
          intro f
          induction f with
          | zero => intro k; exact .inl rfl
          | succ f ih =>
            intro k
            rw [faultF]
            split
            · split
              · exact .inr (by simp)
              · split
                · exact .inr (by simp)
                · exact ih (k + 1)
            · exact .inl rfl
        rcases key (rs.length - 0) 0 with h | h
        · exact h
        · exact absurd h2 h
      refine ⟨hb, ax, cx, m, ?_, ?_, ?_⟩
      · rw [e1, e3]; rfl
      · rw [e2]; exact h3
      · rw [e2]; exact h4
    · refine (refWrite_fault gen bound a n cap rs w (by omega) (by omega) ha hl hn h2).mono ?_
      rintro e w' ⟨rfl, hb⟩
      have e2 : writeL gen bound rs = [] := by unfold writeL; rw [e1, if_neg h2]
      refine ⟨hb, none, 0, 0, ?_, ?_, ?_⟩
      · rw [e1]
      · rw [e2]; rfl
      · rw [e2]; exact World.ownsRow_nil _ _ _ _

/-- What is asked of Read. -/
def ReadC (f : Nat) : Prop := ∀ (a : Option Addr) (n cap : Nat) (zs : List Int) (w : World), View .u32 w a zs → zs.length = n → Within 4294967296 zs → 4 * n ≤ 140737488351232 → n ≤ cap →
  Calls Try.prog f #[.slice a n cap] w fun e w' => Below w.heap.size w w' ∧ ∃ ax cx m, e = .returned (.tuple #[.agg #[.int .u32 (readAt zs 2), .int .u32 (readAt zs 3)], .slice ax m cx, .agg #[.int .i64 (readE zs).1, .int .i64 (readE zs).2]]) ∧ (readL zs).length = m ∧ OwnR w' w.heap.size ax 0 (readL zs)
/-- What is asked of Write. -/
def WriteC (f : Nat) : Prop := ∀ (gen bound : Int) (a : Option Addr) (n cap : Nat) (rs : List (Int × List Int)) (w : World), 0 ≤ gen → gen < 4294967296 → 0 ≤ bound → bound < 4294967296 → RawsV w a rs → RawsOk rs → rs.length = n → 32 * n ≤ 140737488351232 → n ≤ cap →
  Calls Try.prog f #[.agg #[.int .u32 gen, .int .u32 bound], .slice a n cap] w fun e w' => Below w.heap.size w w' ∧ ∃ ax cx m, e = .returned (.tuple #[.slice ax m cx, .agg #[.int .i64 (writeE bound rs).1, .int .i64 (writeE bound rs).2]]) ∧ (writeL gen bound rs).length = m ∧
    w'.ownsRow w.heap.size 23 1 (.slice ax m cx) m ((writeL gen bound rs).map (Value.int .u32))
/-- What is asked of Size. -/
def SizeC (f : Nat) : Prop := ∀ (a : Option Addr) (n cap : Nat) (rs : List (Int × List Int)) (w : World), RawsV w a rs → RawsOk rs → rs.length = n → 32 * n ≤ 140737488351232 → n ≤ cap →
  Calls Try.prog f #[.slice a n cap] w fun e w' => e = .returned (.tuple #[.int .i64 (sizeOut rs), .int .i64 (fault rs 0).1]) ∧ Below w.heap.size w w'
/-- What is asked of Find. -/
def FindC (f : Nat) : Prop := ∀ (a : Option Addr) (n cap : Nat) (zs : List Int) (op from_ : Int) (w : World), View .u32 w a zs → zs.length = n → Within 4294967296 zs → 4 * n ≤ 140737488351232 → n ≤ cap → 0 ≤ op → op < 65536 → -9223372036854775808 ≤ from_ → from_ ≤ 9223372036854775807 →
  Calls Try.prog f #[.slice a n cap, .int .u16 op, .int .i64 from_] w fun e w' => e = .returned (.tuple #[.int .i64 (findAt zs op from_), .bool (findIs zs op from_)]) ∧ Below w.heap.size w w'

end Go.Proofs.Ytckpijgnkkjfkaa
