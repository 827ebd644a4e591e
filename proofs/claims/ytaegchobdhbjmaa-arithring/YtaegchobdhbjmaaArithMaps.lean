/-
  The functions of arith that make a map of functions and ask it: which function is answered, for every operation.
-/
import Derived.WalkSpells
import Derived.WalkMore
import Derived.Test.YtaegchobdhbjmaaMapF
namespace Go.Proofs.Ytaegchobdhbjmaa
open Go.RowKit Go.Maps
set_option linter.unusedVariables false
set_option linter.unusedSimpArgs false
set_option maxRecDepth 10000

theorem zeroFn0 (w : World) : (zeroValue 37).run Try.prog w = .ok .nilFunc w := by kernel_rfl

theorem nilzeroFn0 (w : World) : (binOp .eql 37 .nilFunc .nilFunc).run Try.prog w = .ok (.bool true) w := by kernel_rfl

theorem somezeroFn0 (w : World) (fn : Fn) (p q : Array Value) : (binOp .eql 37 (.func fn p q) .nilFunc).run Try.prog w = .ok (.bool false) w := by kernel_rfl

def ofSumsV (op : Int) : Value := if op = 132 then fnV 50 else if op = 130 then fnV 49 else if op = 128 then fnV 48 else .nilFunc

set_option maxHeartbeats 2000000 in
theorem ofSums_any (op : Int) (w : World) (h0 : 0 ≤ op) (h1 : op < 65536) : Calls Try.prog 28 #[.int .u16 op] w fun e w' => e = .returned (ofSumsV op) ∧ Below w.heap.size w w' := by
  have hmm := @run_makeMap Try.prog
  obtain ⟨w1, r1, m1, g1⟩ := (MapF.made w).ins 52 _ Try.underlying52 (by unfold maxLen; omega) 128 (.func (.func 48) #[] #[]) (by omega) (by omega)
  have b1 := below_ins (below_made w) (Nat.le_refl _) (Nat.le_refl _) g1
  obtain ⟨w2, r2, m2, g2⟩ := m1.ins 52 _ Try.underlying52 (by unfold maxLen; omega) 130 (.func (.func 49) #[] #[]) (by omega) (by omega)
  have b2 := below_ins b1 (Nat.le_refl _) (Nat.le_refl _) g2
  obtain ⟨w3, r3, m3, g3⟩ := m2.ins 52 _ Try.underlying52 (by unfold maxLen; omega) 132 (.func (.func 50) #[] #[]) (by omega) (by omega)
  have b3 := below_ins b2 (Nat.le_refl _) (Nat.le_refl _) g3
  have hlk := m3.look 52 _ Try.underlying52 (zeroFn0 _) op h0 h1
  change _ = Result.ok (ofSumsV op) _ at hlk
  generalize ofSumsV op = V at *
  clear m1 g1 m2 g2 m3 g3
  go_enter Try.func28, Try.ntmps28
  go_wp2
  go_ret
  exact ⟨rfl, b3⟩

def ofTruthsV (op : Int) : Value := if op = 167 then fnV 61 else if op = 166 then fnV 60 else if op = 165 then fnV 59 else if op = 164 then fnV 58 else .nilFunc

set_option maxHeartbeats 2000000 in
theorem ofTruths_any (op : Int) (w : World) (h0 : 0 ≤ op) (h1 : op < 65536) : Calls Try.prog 30 #[.int .u16 op] w fun e w' => e = .returned (ofTruthsV op) ∧ Below w.heap.size w w' := by
  have hmm := @run_makeMap Try.prog
  obtain ⟨w1, r1, m1, g1⟩ := (MapF.made w).ins 52 _ Try.underlying52 (by unfold maxLen; omega) 164 (.func (.func 58) #[] #[]) (by omega) (by omega)
  have b1 := below_ins (below_made w) (Nat.le_refl _) (Nat.le_refl _) g1
  obtain ⟨w2, r2, m2, g2⟩ := m1.ins 52 _ Try.underlying52 (by unfold maxLen; omega) 165 (.func (.func 59) #[] #[]) (by omega) (by omega)
  have b2 := below_ins b1 (Nat.le_refl _) (Nat.le_refl _) g2
  obtain ⟨w3, r3, m3, g3⟩ := m2.ins 52 _ Try.underlying52 (by unfold maxLen; omega) 166 (.func (.func 60) #[] #[]) (by omega) (by omega)
  have b3 := below_ins b2 (Nat.le_refl _) (Nat.le_refl _) g3
  obtain ⟨w4, r4, m4, g4⟩ := m3.ins 52 _ Try.underlying52 (by unfold maxLen; omega) 167 (.func (.func 61) #[] #[]) (by omega) (by omega)
  have b4 := below_ins b3 (Nat.le_refl _) (Nat.le_refl _) g4
  have hlk := m4.look 52 _ Try.underlying52 (zeroFn0 _) op h0 h1
  change _ = Result.ok (ofTruthsV op) _ at hlk
  generalize ofTruthsV op = V at *
  clear m1 g1 m2 g2 m3 g3 m4 g4
  go_enter Try.func30, Try.ntmps30
  go_wp2
  go_ret
  exact ⟨rfl, b4⟩

def ofGreaterV (op : Int) : Value := if op = 175 then fnV 67 else if op = 173 then fnV 66 else if op = 174 then fnV 65 else if op = 172 then fnV 64 else if op = 171 then fnV 63 else if op = 170 then fnV 62 else .nilFunc

set_option maxHeartbeats 2000000 in
theorem ofGreater_any (op : Int) (w : World) (h0 : 0 ≤ op) (h1 : op < 65536) : Calls Try.prog 31 #[.int .u16 op] w fun e w' => e = .returned (ofGreaterV op) ∧ Below w.heap.size w w' := by
  have hmm := @run_makeMap Try.prog
  obtain ⟨w1, r1, m1, g1⟩ := (MapF.made w).ins 52 _ Try.underlying52 (by unfold maxLen; omega) 170 (.func (.func 62) #[] #[]) (by omega) (by omega)
  have b1 := below_ins (below_made w) (Nat.le_refl _) (Nat.le_refl _) g1
  obtain ⟨w2, r2, m2, g2⟩ := m1.ins 52 _ Try.underlying52 (by unfold maxLen; omega) 171 (.func (.func 63) #[] #[]) (by omega) (by omega)
  have b2 := below_ins b1 (Nat.le_refl _) (Nat.le_refl _) g2
  obtain ⟨w3, r3, m3, g3⟩ := m2.ins 52 _ Try.underlying52 (by unfold maxLen; omega) 172 (.func (.func 64) #[] #[]) (by omega) (by omega)
  have b3 := below_ins b2 (Nat.le_refl _) (Nat.le_refl _) g3
  obtain ⟨w4, r4, m4, g4⟩ := m3.ins 52 _ Try.underlying52 (by unfold maxLen; omega) 174 (.func (.func 65) #[] #[]) (by omega) (by omega)
  have b4 := below_ins b3 (Nat.le_refl _) (Nat.le_refl _) g4
  obtain ⟨w5, r5, m5, g5⟩ := m4.ins 52 _ Try.underlying52 (by unfold maxLen; omega) 173 (.func (.func 66) #[] #[]) (by omega) (by omega)
  have b5 := below_ins b4 (Nat.le_refl _) (Nat.le_refl _) g5
  obtain ⟨w6, r6, m6, g6⟩ := m5.ins 52 _ Try.underlying52 (by unfold maxLen; omega) 175 (.func (.func 67) #[] #[]) (by omega) (by omega)
  have b6 := below_ins b5 (Nat.le_refl _) (Nat.le_refl _) g6
  have hlk := m6.look 52 _ Try.underlying52 (zeroFn0 _) op h0 h1
  change _ = Result.ok (ofGreaterV op) _ at hlk
  generalize ofGreaterV op = V at *
  clear m1 g1 m2 g2 m3 g3 m4 g4 m5 g5 m6 g6
  go_enter Try.func31, Try.ntmps31
  go_wp2
  go_ret
  exact ⟨rfl, b6⟩

def ofLessV (op : Int) : Value := if op = 179 then fnV 71 else if op = 177 then fnV 70 else if op = 178 then fnV 69 else if op = 176 then fnV 68 else .nilFunc

set_option maxHeartbeats 2000000 in
theorem ofLess_any (op : Int) (w : World) (h0 : 0 ≤ op) (h1 : op < 65536) : Calls Try.prog 32 #[.int .u16 op] w fun e w' => e = .returned (ofLessV op) ∧ Below w.heap.size w w' := by
  have hmm := @run_makeMap Try.prog
  obtain ⟨w1, r1, m1, g1⟩ := (MapF.made w).ins 52 _ Try.underlying52 (by unfold maxLen; omega) 176 (.func (.func 68) #[] #[]) (by omega) (by omega)
  have b1 := below_ins (below_made w) (Nat.le_refl _) (Nat.le_refl _) g1
  obtain ⟨w2, r2, m2, g2⟩ := m1.ins 52 _ Try.underlying52 (by unfold maxLen; omega) 178 (.func (.func 69) #[] #[]) (by omega) (by omega)
  have b2 := below_ins b1 (Nat.le_refl _) (Nat.le_refl _) g2
  obtain ⟨w3, r3, m3, g3⟩ := m2.ins 52 _ Try.underlying52 (by unfold maxLen; omega) 177 (.func (.func 70) #[] #[]) (by omega) (by omega)
  have b3 := below_ins b2 (Nat.le_refl _) (Nat.le_refl _) g3
  obtain ⟨w4, r4, m4, g4⟩ := m3.ins 52 _ Try.underlying52 (by unfold maxLen; omega) 179 (.func (.func 71) #[] #[]) (by omega) (by omega)
  have b4 := below_ins b3 (Nat.le_refl _) (Nat.le_refl _) g4
  have hlk := m4.look 52 _ Try.underlying52 (zeroFn0 _) op h0 h1
  change _ = Result.ok (ofLessV op) _ at hlk
  generalize ofLessV op = V at *
  clear m1 g1 m2 g2 m3 g3 m4 g4
  go_enter Try.func32, Try.ntmps32
  go_wp2
  go_ret
  exact ⟨rfl, b4⟩

def ofBitsV (op : Int) : Value := if op = 199 then fnV 77 else if op = 198 then fnV 76 else if op = 197 then fnV 75 else if op = 196 then fnV 74 else if op = 195 then fnV 73 else if op = 194 then fnV 72 else .nilFunc

set_option maxHeartbeats 2000000 in
theorem ofBits_any (op : Int) (w : World) (h0 : 0 ≤ op) (h1 : op < 65536) : Calls Try.prog 33 #[.int .u16 op] w fun e w' => e = .returned (ofBitsV op) ∧ Below w.heap.size w w' := by
  have hmm := @run_makeMap Try.prog
  obtain ⟨w1, r1, m1, g1⟩ := (MapF.made w).ins 52 _ Try.underlying52 (by unfold maxLen; omega) 194 (.func (.func 72) #[] #[]) (by omega) (by omega)
  have b1 := below_ins (below_made w) (Nat.le_refl _) (Nat.le_refl _) g1
  obtain ⟨w2, r2, m2, g2⟩ := m1.ins 52 _ Try.underlying52 (by unfold maxLen; omega) 195 (.func (.func 73) #[] #[]) (by omega) (by omega)
  have b2 := below_ins b1 (Nat.le_refl _) (Nat.le_refl _) g2
  obtain ⟨w3, r3, m3, g3⟩ := m2.ins 52 _ Try.underlying52 (by unfold maxLen; omega) 196 (.func (.func 74) #[] #[]) (by omega) (by omega)
  have b3 := below_ins b2 (Nat.le_refl _) (Nat.le_refl _) g3
  obtain ⟨w4, r4, m4, g4⟩ := m3.ins 52 _ Try.underlying52 (by unfold maxLen; omega) 197 (.func (.func 75) #[] #[]) (by omega) (by omega)
  have b4 := below_ins b3 (Nat.le_refl _) (Nat.le_refl _) g4
  obtain ⟨w5, r5, m5, g5⟩ := m4.ins 52 _ Try.underlying52 (by unfold maxLen; omega) 198 (.func (.func 76) #[] #[]) (by omega) (by omega)
  have b5 := below_ins b4 (Nat.le_refl _) (Nat.le_refl _) g5
  obtain ⟨w6, r6, m6, g6⟩ := m5.ins 52 _ Try.underlying52 (by unfold maxLen; omega) 199 (.func (.func 77) #[] #[]) (by omega) (by omega)
  have b6 := below_ins b5 (Nat.le_refl _) (Nat.le_refl _) g6
  have hlk := m6.look 52 _ Try.underlying52 (zeroFn0 _) op h0 h1
  change _ = Result.ok (ofBitsV op) _ at hlk
  generalize ofBitsV op = V at *
  clear m1 g1 m2 g2 m3 g3 m4 g4 m5 g5 m6 g6
  go_enter Try.func33, Try.ntmps33
  go_wp2
  go_ret
  exact ⟨rfl, b6⟩

theorem zeroFn1 (w : World) : (zeroValue 39).run Try.prog w = .ok .nilFunc w := by kernel_rfl

theorem nilzeroFn1 (w : World) : (binOp .eql 39 .nilFunc .nilFunc).run Try.prog w = .ok (.bool true) w := by kernel_rfl

theorem somezeroFn1 (w : World) (fn : Fn) (p q : Array Value) : (binOp .eql 39 (.func fn p q) .nilFunc).run Try.prog w = .ok (.bool false) w := by kernel_rfl

def ofPairV (op : Int) : Value := if op = 152 then fnV 39 else if op = 151 then fnV 37 else if op = 150 then fnV 36 else if op = 149 then fnV 34 else .nilFunc

set_option maxHeartbeats 2000000 in
theorem ofPair_any (op : Int) (w : World) (h0 : 0 ≤ op) (h1 : op < 65536) : Calls Try.prog 22 #[.int .u16 op] w fun e w' => e = .returned (ofPairV op) ∧ Below w.heap.size w w' := by
  have hmm := @run_makeMap Try.prog
  obtain ⟨w1, r1, m1, g1⟩ := (MapF.made w).ins 50 _ Try.underlying50 (by unfold maxLen; omega) 149 (.func (.func 34) #[] #[]) (by omega) (by omega)
  have b1 := below_ins (below_made w) (Nat.le_refl _) (Nat.le_refl _) g1
  obtain ⟨w2, r2, m2, g2⟩ := m1.ins 50 _ Try.underlying50 (by unfold maxLen; omega) 150 (.func (.func 36) #[] #[]) (by omega) (by omega)
  have b2 := below_ins b1 (Nat.le_refl _) (Nat.le_refl _) g2
  obtain ⟨w3, r3, m3, g3⟩ := m2.ins 50 _ Try.underlying50 (by unfold maxLen; omega) 151 (.func (.func 37) #[] #[]) (by omega) (by omega)
  have b3 := below_ins b2 (Nat.le_refl _) (Nat.le_refl _) g3
  obtain ⟨w4, r4, m4, g4⟩ := m3.ins 50 _ Try.underlying50 (by unfold maxLen; omega) 152 (.func (.func 39) #[] #[]) (by omega) (by omega)
  have b4 := below_ins b3 (Nat.le_refl _) (Nat.le_refl _) g4
  have hlk := m4.look 50 _ Try.underlying50 (zeroFn1 _) op h0 h1
  change _ = Result.ok (ofPairV op) _ at hlk
  generalize ofPairV op = V at *
  clear m1 g1 m2 g2 m3 g3 m4 g4
  go_enter Try.func22, Try.ntmps22
  go_wp2
  go_ret
  exact ⟨rfl, b4⟩

theorem zeroFn2 (w : World) : (zeroValue 42).run Try.prog w = .ok .nilFunc w := by kernel_rfl

theorem nilzeroFn2 (w : World) : (binOp .eql 42 .nilFunc .nilFunc).run Try.prog w = .ok (.bool true) w := by kernel_rfl

theorem somezeroFn2 (w : World) (fn : Fn) (p q : Array Value) : (binOp .eql 42 (.func fn p q) .nilFunc).run Try.prog w = .ok (.bool false) w := by kernel_rfl

def ofOneV (op : Int) : Value := if op = 124 then fnV 40 else if op = 83 then fnV 40 else if op = 168 then fnV 47 else if op = 205 then fnV 45 else if op = 204 then fnV 43 else if op = 200 then fnV 42 else if op = 126 then fnV 41 else .nilFunc

set_option maxHeartbeats 2000000 in
theorem ofOne_any (op : Int) (w : World) (h0 : 0 ≤ op) (h1 : op < 65536) : Calls Try.prog 23 #[.int .u16 op] w fun e w' => e = .returned (ofOneV op) ∧ Below w.heap.size w w' := by
  have hmm := @run_makeMap Try.prog
  obtain ⟨w1, r1, m1, g1⟩ := (MapF.made w).ins 51 _ Try.underlying51 (by unfold maxLen; omega) 126 (.func (.func 41) #[] #[]) (by omega) (by omega)
  have b1 := below_ins (below_made w) (Nat.le_refl _) (Nat.le_refl _) g1
  obtain ⟨w2, r2, m2, g2⟩ := m1.ins 51 _ Try.underlying51 (by unfold maxLen; omega) 200 (.func (.func 42) #[] #[]) (by omega) (by omega)
  have b2 := below_ins b1 (Nat.le_refl _) (Nat.le_refl _) g2
  obtain ⟨w3, r3, m3, g3⟩ := m2.ins 51 _ Try.underlying51 (by unfold maxLen; omega) 204 (.func (.func 43) #[] #[]) (by omega) (by omega)
  have b3 := below_ins b2 (Nat.le_refl _) (Nat.le_refl _) g3
  obtain ⟨w4, r4, m4, g4⟩ := m3.ins 51 _ Try.underlying51 (by unfold maxLen; omega) 205 (.func (.func 45) #[] #[]) (by omega) (by omega)
  have b4 := below_ins b3 (Nat.le_refl _) (Nat.le_refl _) g4
  obtain ⟨w5, r5, m5, g5⟩ := m4.ins 51 _ Try.underlying51 (by unfold maxLen; omega) 168 (.func (.func 47) #[] #[]) (by omega) (by omega)
  have b5 := below_ins b4 (Nat.le_refl _) (Nat.le_refl _) g5
  obtain ⟨w6, r6, m6, g6⟩ := m5.ins 51 _ Try.underlying51 (by unfold maxLen; omega) 83 (.func (.func 40) #[] #[]) (by omega) (by omega)
  have b6 := below_ins b5 (Nat.le_refl _) (Nat.le_refl _) g6
  obtain ⟨w7, r7, m7, g7⟩ := m6.ins 51 _ Try.underlying51 (by unfold maxLen; omega) 124 (.func (.func 40) #[] #[]) (by omega) (by omega)
  have b7 := below_ins b6 (Nat.le_refl _) (Nat.le_refl _) g7
  have hlk := m7.look 51 _ Try.underlying51 (zeroFn2 _) op h0 h1
  change _ = Result.ok (ofOneV op) _ at hlk
  generalize ofOneV op = V at *
  clear m1 g1 m2 g2 m3 g3 m4 g4 m5 g5 m6 g6 m7 g7
  go_enter Try.func23, Try.ntmps23
  go_wp2
  go_ret
  exact ⟨rfl, b7⟩

end Go.Proofs.Ytaegchobdhbjmaa
