/-
  The functions of arith that make a map of functions and ask it: which function is answered, for every operation.
-/
import Derived.WalkSpells
import Derived.WalkMore
import Derived.Test.YtbhoimeneekdfaaMapF
namespace Go.Proofs.Ytbhoimeneekdfaa
open Go.RowKit Go.Maps
set_option linter.unusedVariables false
set_option linter.unusedSimpArgs false
set_option maxRecDepth 10000

theorem zeroFn0 (w : World) : (zeroValue 63).run Try.prog w = .ok .nilFunc w := by kernel_rfl

theorem nilzeroFn0 (w : World) : (binOp .eql 63 .nilFunc .nilFunc).run Try.prog w = .ok (.bool true) w := by kernel_rfl

theorem somezeroFn0 (w : World) (fn : Fn) (p q : Array Value) : (binOp .eql 63 (.func fn p q) .nilFunc).run Try.prog w = .ok (.bool false) w := by kernel_rfl

def ofSumsV (op : Int) : Value := if op = 132 then fnV 66 else if op = 130 then fnV 65 else if op = 128 then fnV 64 else .nilFunc

set_option maxHeartbeats 2000000 in
theorem ofSums_any (op : Int) (w : World) (h0 : 0 ≤ op) (h1 : op < 65536) : Calls Try.prog 58 #[.int .u16 op] w fun e w' => e = .returned (ofSumsV op) ∧ Below w.heap.size w w' := by
  have hmm := @run_makeMap Try.prog
  obtain ⟨w1, r1, m1, g1⟩ := (MapF.made w).ins 68 _ Try.underlying68 (by unfold maxLen; omega) 128 (.func (.func 64) #[] #[]) (by omega) (by omega)
  have b1 := below_ins (below_made w) (Nat.le_refl _) (Nat.le_refl _) g1
  obtain ⟨w2, r2, m2, g2⟩ := m1.ins 68 _ Try.underlying68 (by unfold maxLen; omega) 130 (.func (.func 65) #[] #[]) (by omega) (by omega)
  have b2 := below_ins b1 (Nat.le_refl _) (Nat.le_refl _) g2
  obtain ⟨w3, r3, m3, g3⟩ := m2.ins 68 _ Try.underlying68 (by unfold maxLen; omega) 132 (.func (.func 66) #[] #[]) (by omega) (by omega)
  have b3 := below_ins b2 (Nat.le_refl _) (Nat.le_refl _) g3
  have hlk := m3.look 68 _ Try.underlying68 (zeroFn0 _) op h0 h1
  change _ = Result.ok (ofSumsV op) _ at hlk
  generalize ofSumsV op = V at *
  clear m1 g1 m2 g2 m3 g3
  go_enter Try.func58, Try.ntmps58
  go_wp2
  go_ret
  exact ⟨rfl, b3⟩

def ofTruthsV (op : Int) : Value := if op = 167 then fnV 77 else if op = 166 then fnV 76 else if op = 165 then fnV 75 else if op = 164 then fnV 74 else .nilFunc

set_option maxHeartbeats 2000000 in
theorem ofTruths_any (op : Int) (w : World) (h0 : 0 ≤ op) (h1 : op < 65536) : Calls Try.prog 60 #[.int .u16 op] w fun e w' => e = .returned (ofTruthsV op) ∧ Below w.heap.size w w' := by
  have hmm := @run_makeMap Try.prog
  obtain ⟨w1, r1, m1, g1⟩ := (MapF.made w).ins 68 _ Try.underlying68 (by unfold maxLen; omega) 164 (.func (.func 74) #[] #[]) (by omega) (by omega)
  have b1 := below_ins (below_made w) (Nat.le_refl _) (Nat.le_refl _) g1
  obtain ⟨w2, r2, m2, g2⟩ := m1.ins 68 _ Try.underlying68 (by unfold maxLen; omega) 165 (.func (.func 75) #[] #[]) (by omega) (by omega)
  have b2 := below_ins b1 (Nat.le_refl _) (Nat.le_refl _) g2
  obtain ⟨w3, r3, m3, g3⟩ := m2.ins 68 _ Try.underlying68 (by unfold maxLen; omega) 166 (.func (.func 76) #[] #[]) (by omega) (by omega)
  have b3 := below_ins b2 (Nat.le_refl _) (Nat.le_refl _) g3
  obtain ⟨w4, r4, m4, g4⟩ := m3.ins 68 _ Try.underlying68 (by unfold maxLen; omega) 167 (.func (.func 77) #[] #[]) (by omega) (by omega)
  have b4 := below_ins b3 (Nat.le_refl _) (Nat.le_refl _) g4
  have hlk := m4.look 68 _ Try.underlying68 (zeroFn0 _) op h0 h1
  change _ = Result.ok (ofTruthsV op) _ at hlk
  generalize ofTruthsV op = V at *
  clear m1 g1 m2 g2 m3 g3 m4 g4
  go_enter Try.func60, Try.ntmps60
  go_wp2
  go_ret
  exact ⟨rfl, b4⟩

def ofGreaterV (op : Int) : Value := if op = 175 then fnV 83 else if op = 173 then fnV 82 else if op = 174 then fnV 81 else if op = 172 then fnV 80 else if op = 171 then fnV 79 else if op = 170 then fnV 78 else .nilFunc

set_option maxHeartbeats 2000000 in
theorem ofGreater_any (op : Int) (w : World) (h0 : 0 ≤ op) (h1 : op < 65536) : Calls Try.prog 61 #[.int .u16 op] w fun e w' => e = .returned (ofGreaterV op) ∧ Below w.heap.size w w' := by
  have hmm := @run_makeMap Try.prog
  obtain ⟨w1, r1, m1, g1⟩ := (MapF.made w).ins 68 _ Try.underlying68 (by unfold maxLen; omega) 170 (.func (.func 78) #[] #[]) (by omega) (by omega)
  have b1 := below_ins (below_made w) (Nat.le_refl _) (Nat.le_refl _) g1
  obtain ⟨w2, r2, m2, g2⟩ := m1.ins 68 _ Try.underlying68 (by unfold maxLen; omega) 171 (.func (.func 79) #[] #[]) (by omega) (by omega)
  have b2 := below_ins b1 (Nat.le_refl _) (Nat.le_refl _) g2
  obtain ⟨w3, r3, m3, g3⟩ := m2.ins 68 _ Try.underlying68 (by unfold maxLen; omega) 172 (.func (.func 80) #[] #[]) (by omega) (by omega)
  have b3 := below_ins b2 (Nat.le_refl _) (Nat.le_refl _) g3
  obtain ⟨w4, r4, m4, g4⟩ := m3.ins 68 _ Try.underlying68 (by unfold maxLen; omega) 174 (.func (.func 81) #[] #[]) (by omega) (by omega)
  have b4 := below_ins b3 (Nat.le_refl _) (Nat.le_refl _) g4
  obtain ⟨w5, r5, m5, g5⟩ := m4.ins 68 _ Try.underlying68 (by unfold maxLen; omega) 173 (.func (.func 82) #[] #[]) (by omega) (by omega)
  have b5 := below_ins b4 (Nat.le_refl _) (Nat.le_refl _) g5
  obtain ⟨w6, r6, m6, g6⟩ := m5.ins 68 _ Try.underlying68 (by unfold maxLen; omega) 175 (.func (.func 83) #[] #[]) (by omega) (by omega)
  have b6 := below_ins b5 (Nat.le_refl _) (Nat.le_refl _) g6
  have hlk := m6.look 68 _ Try.underlying68 (zeroFn0 _) op h0 h1
  change _ = Result.ok (ofGreaterV op) _ at hlk
  generalize ofGreaterV op = V at *
  clear m1 g1 m2 g2 m3 g3 m4 g4 m5 g5 m6 g6
  go_enter Try.func61, Try.ntmps61
  go_wp2
  go_ret
  exact ⟨rfl, b6⟩

def ofLessV (op : Int) : Value := if op = 179 then fnV 87 else if op = 177 then fnV 86 else if op = 178 then fnV 85 else if op = 176 then fnV 84 else .nilFunc

set_option maxHeartbeats 2000000 in
theorem ofLess_any (op : Int) (w : World) (h0 : 0 ≤ op) (h1 : op < 65536) : Calls Try.prog 62 #[.int .u16 op] w fun e w' => e = .returned (ofLessV op) ∧ Below w.heap.size w w' := by
  have hmm := @run_makeMap Try.prog
  obtain ⟨w1, r1, m1, g1⟩ := (MapF.made w).ins 68 _ Try.underlying68 (by unfold maxLen; omega) 176 (.func (.func 84) #[] #[]) (by omega) (by omega)
  have b1 := below_ins (below_made w) (Nat.le_refl _) (Nat.le_refl _) g1
  obtain ⟨w2, r2, m2, g2⟩ := m1.ins 68 _ Try.underlying68 (by unfold maxLen; omega) 178 (.func (.func 85) #[] #[]) (by omega) (by omega)
  have b2 := below_ins b1 (Nat.le_refl _) (Nat.le_refl _) g2
  obtain ⟨w3, r3, m3, g3⟩ := m2.ins 68 _ Try.underlying68 (by unfold maxLen; omega) 177 (.func (.func 86) #[] #[]) (by omega) (by omega)
  have b3 := below_ins b2 (Nat.le_refl _) (Nat.le_refl _) g3
  obtain ⟨w4, r4, m4, g4⟩ := m3.ins 68 _ Try.underlying68 (by unfold maxLen; omega) 179 (.func (.func 87) #[] #[]) (by omega) (by omega)
  have b4 := below_ins b3 (Nat.le_refl _) (Nat.le_refl _) g4
  have hlk := m4.look 68 _ Try.underlying68 (zeroFn0 _) op h0 h1
  change _ = Result.ok (ofLessV op) _ at hlk
  generalize ofLessV op = V at *
  clear m1 g1 m2 g2 m3 g3 m4 g4
  go_enter Try.func62, Try.ntmps62
  go_wp2
  go_ret
  exact ⟨rfl, b4⟩

def ofBitsV (op : Int) : Value := if op = 199 then fnV 93 else if op = 198 then fnV 92 else if op = 197 then fnV 91 else if op = 196 then fnV 90 else if op = 195 then fnV 89 else if op = 194 then fnV 88 else .nilFunc

set_option maxHeartbeats 2000000 in
theorem ofBits_any (op : Int) (w : World) (h0 : 0 ≤ op) (h1 : op < 65536) : Calls Try.prog 63 #[.int .u16 op] w fun e w' => e = .returned (ofBitsV op) ∧ Below w.heap.size w w' := by
  have hmm := @run_makeMap Try.prog
  obtain ⟨w1, r1, m1, g1⟩ := (MapF.made w).ins 68 _ Try.underlying68 (by unfold maxLen; omega) 194 (.func (.func 88) #[] #[]) (by omega) (by omega)
  have b1 := below_ins (below_made w) (Nat.le_refl _) (Nat.le_refl _) g1
  obtain ⟨w2, r2, m2, g2⟩ := m1.ins 68 _ Try.underlying68 (by unfold maxLen; omega) 195 (.func (.func 89) #[] #[]) (by omega) (by omega)
  have b2 := below_ins b1 (Nat.le_refl _) (Nat.le_refl _) g2
  obtain ⟨w3, r3, m3, g3⟩ := m2.ins 68 _ Try.underlying68 (by unfold maxLen; omega) 196 (.func (.func 90) #[] #[]) (by omega) (by omega)
  have b3 := below_ins b2 (Nat.le_refl _) (Nat.le_refl _) g3
  obtain ⟨w4, r4, m4, g4⟩ := m3.ins 68 _ Try.underlying68 (by unfold maxLen; omega) 197 (.func (.func 91) #[] #[]) (by omega) (by omega)
  have b4 := below_ins b3 (Nat.le_refl _) (Nat.le_refl _) g4
  obtain ⟨w5, r5, m5, g5⟩ := m4.ins 68 _ Try.underlying68 (by unfold maxLen; omega) 198 (.func (.func 92) #[] #[]) (by omega) (by omega)
  have b5 := below_ins b4 (Nat.le_refl _) (Nat.le_refl _) g5
  obtain ⟨w6, r6, m6, g6⟩ := m5.ins 68 _ Try.underlying68 (by unfold maxLen; omega) 199 (.func (.func 93) #[] #[]) (by omega) (by omega)
  have b6 := below_ins b5 (Nat.le_refl _) (Nat.le_refl _) g6
  have hlk := m6.look 68 _ Try.underlying68 (zeroFn0 _) op h0 h1
  change _ = Result.ok (ofBitsV op) _ at hlk
  generalize ofBitsV op = V at *
  clear m1 g1 m2 g2 m3 g3 m4 g4 m5 g5 m6 g6
  go_enter Try.func63, Try.ntmps63
  go_wp2
  go_ret
  exact ⟨rfl, b6⟩

theorem zeroFn1 (w : World) : (zeroValue 67).run Try.prog w = .ok .nilFunc w := by kernel_rfl

theorem nilzeroFn1 (w : World) : (binOp .eql 67 .nilFunc .nilFunc).run Try.prog w = .ok (.bool true) w := by kernel_rfl

theorem somezeroFn1 (w : World) (fn : Fn) (p q : Array Value) : (binOp .eql 67 (.func fn p q) .nilFunc).run Try.prog w = .ok (.bool false) w := by kernel_rfl

theorem zeroFn2 (w : World) : (zeroValue 42).run Try.prog w = .ok .nilFunc w := by kernel_rfl

theorem nilzeroFn2 (w : World) : (binOp .eql 42 .nilFunc .nilFunc).run Try.prog w = .ok (.bool true) w := by kernel_rfl

theorem somezeroFn2 (w : World) (fn : Fn) (p q : Array Value) : (binOp .eql 42 (.func fn p q) .nilFunc).run Try.prog w = .ok (.bool false) w := by kernel_rfl

def ofOneV (op : Int) : Value := if op = 124 then fnV 25 else if op = 83 then fnV 25 else if op = 168 then fnV 32 else if op = 205 then fnV 30 else if op = 204 then fnV 28 else if op = 200 then fnV 27 else if op = 126 then fnV 26 else .nilFunc

set_option maxHeartbeats 2000000 in
theorem ofOne_any (op : Int) (w : World) (h0 : 0 ≤ op) (h1 : op < 65536) : Calls Try.prog 18 #[.int .u16 op] w fun e w' => e = .returned (ofOneV op) ∧ Below w.heap.size w w' := by
  have hmm := @run_makeMap Try.prog
  obtain ⟨w1, r1, m1, g1⟩ := (MapF.made w).ins 55 _ Try.underlying55 (by unfold maxLen; omega) 126 (.func (.func 26) #[] #[]) (by omega) (by omega)
  have b1 := below_ins (below_made w) (Nat.le_refl _) (Nat.le_refl _) g1
  obtain ⟨w2, r2, m2, g2⟩ := m1.ins 55 _ Try.underlying55 (by unfold maxLen; omega) 200 (.func (.func 27) #[] #[]) (by omega) (by omega)
  have b2 := below_ins b1 (Nat.le_refl _) (Nat.le_refl _) g2
  obtain ⟨w3, r3, m3, g3⟩ := m2.ins 55 _ Try.underlying55 (by unfold maxLen; omega) 204 (.func (.func 28) #[] #[]) (by omega) (by omega)
  have b3 := below_ins b2 (Nat.le_refl _) (Nat.le_refl _) g3
  obtain ⟨w4, r4, m4, g4⟩ := m3.ins 55 _ Try.underlying55 (by unfold maxLen; omega) 205 (.func (.func 30) #[] #[]) (by omega) (by omega)
  have b4 := below_ins b3 (Nat.le_refl _) (Nat.le_refl _) g4
  obtain ⟨w5, r5, m5, g5⟩ := m4.ins 55 _ Try.underlying55 (by unfold maxLen; omega) 168 (.func (.func 32) #[] #[]) (by omega) (by omega)
  have b5 := below_ins b4 (Nat.le_refl _) (Nat.le_refl _) g5
  obtain ⟨w6, r6, m6, g6⟩ := m5.ins 55 _ Try.underlying55 (by unfold maxLen; omega) 83 (.func (.func 25) #[] #[]) (by omega) (by omega)
  have b6 := below_ins b5 (Nat.le_refl _) (Nat.le_refl _) g6
  obtain ⟨w7, r7, m7, g7⟩ := m6.ins 55 _ Try.underlying55 (by unfold maxLen; omega) 124 (.func (.func 25) #[] #[]) (by omega) (by omega)
  have b7 := below_ins b6 (Nat.le_refl _) (Nat.le_refl _) g7
  have hlk := m7.look 55 _ Try.underlying55 (zeroFn2 _) op h0 h1
  change _ = Result.ok (ofOneV op) _ at hlk
  generalize ofOneV op = V at *
  clear m1 g1 m2 g2 m3 g3 m4 g4 m5 g5 m6 g6 m7 g7
  go_enter Try.func18, Try.ntmps18
  go_wp2
  go_ret
  exact ⟨rfl, b7⟩

theorem zeroFn3 (w : World) : (zeroValue 53).run Try.prog w = .ok .nilFunc w := by kernel_rfl

theorem nilzeroFn3 (w : World) : (binOp .eql 53 .nilFunc .nilFunc).run Try.prog w = .ok (.bool true) w := by kernel_rfl

theorem somezeroFn3 (w : World) (fn : Fn) (p q : Array Value) : (binOp .eql 53 (.func fn p q) .nilFunc).run Try.prog w = .ok (.bool false) w := by kernel_rfl

def ofMoreV (op : Int) : Value := if op = 203 then fnV 46 else if op = 202 then fnV 44 else if op = 201 then fnV 42 else if op = 169 then fnV 40 else .nilFunc

set_option maxHeartbeats 2000000 in
theorem ofMore_any (op : Int) (w : World) (h0 : 0 ≤ op) (h1 : op < 65536) : Calls Try.prog 23 #[.int .u16 op] w fun e w' => e = .returned (ofMoreV op) ∧ Below w.heap.size w w' := by
  have hmm := @run_makeMap Try.prog
  obtain ⟨w1, r1, m1, g1⟩ := (MapF.made w).ins 62 _ Try.underlying62 (by unfold maxLen; omega) 169 (.func (.func 40) #[] #[]) (by omega) (by omega)
  have b1 := below_ins (below_made w) (Nat.le_refl _) (Nat.le_refl _) g1
  obtain ⟨w2, r2, m2, g2⟩ := m1.ins 62 _ Try.underlying62 (by unfold maxLen; omega) 201 (.func (.func 42) #[] #[]) (by omega) (by omega)
  have b2 := below_ins b1 (Nat.le_refl _) (Nat.le_refl _) g2
  obtain ⟨w3, r3, m3, g3⟩ := m2.ins 62 _ Try.underlying62 (by unfold maxLen; omega) 202 (.func (.func 44) #[] #[]) (by omega) (by omega)
  have b3 := below_ins b2 (Nat.le_refl _) (Nat.le_refl _) g3
  obtain ⟨w4, r4, m4, g4⟩ := m3.ins 62 _ Try.underlying62 (by unfold maxLen; omega) 203 (.func (.func 46) #[] #[]) (by omega) (by omega)
  have b4 := below_ins b3 (Nat.le_refl _) (Nat.le_refl _) g4
  have hlk := m4.look 62 _ Try.underlying62 (zeroFn3 _) op h0 h1
  change _ = Result.ok (ofMoreV op) _ at hlk
  generalize ofMoreV op = V at *
  clear m1 g1 m2 g2 m3 g3 m4 g4
  go_enter Try.func23, Try.ntmps23
  go_wp2
  go_ret
  exact ⟨rfl, b4⟩

end Go.Proofs.Ytbhoimeneekdfaa
