/-
  Texts laid together in one: LayoutFuncs, Jumps.
-/
import Derived.WalkSpells
import Derived.WalkMore
import Derived.BigRegion
import Derived.Deep.RegionWith
import Derived.Deep.RegionLaw
import Derived.Deep.AppendLies
import Derived.Deep.QuietTactic
import Derived.BigQuiet
import Derived.Test.YtlcaedibmlidlaaGreatProg
import Derived.Test.YtlcaedibmlidlaaGreatB11
import Derived.Test.YtlcaedibmlidlaaGreatB12
import Derived.Test.YtlcaedibmlidlaaGreatB10
import Derived.Test.YtlcaedibmlidlaaGreatB01
import Derived.WalkKit
import Derived.ScopeJumps
/-
  The calls by which a walk notes functions, of the package layout.
-/
namespace Go.Proofs.YtlcaedibmlidlaaGreat
open Go.RowKit
set_option linter.unusedVariables false
set_option linter.unusedSimpArgs false
set_option maxRecDepth 10000

theorem FuncI.info : (Tryz.prog.info? 29).map (fun i => (i.zero, i.size, i.bytes)) = some (some (.agg #[.int .u32 0, .int .i64 0, .slice none 0 0, .slice none 0 0, .int .i64 0]), 5, 72) := by kernel_rfl
theorem BlockI.info : (Tryz.prog.info? 65).map (fun i => (i.zero, i.size, i.bytes)) = some (some (.agg #[.int .u32 0, .int .i64 0, .int .i64 0]), 3, 24) := by kernel_rfl
theorem IntL.info : (Tryz.prog.info? 3).map (fun i => (i.zero, i.size, i.bytes)) = some (some (.int .i64 0), 1, 8) := by kernel_rfl

/-- A walk among the functions, in memory. -/
structure FW (w0 : World) (B : Nat) (a : Option Addr) (n c : Nat) (ps : Nat → Int) (fs : List FuncT) (l : List InstT) (k : Nat) (W : World) : Prop where
  box : ∃ fv, WkB B (.slice a n c) ps fv k (partAt l k) (kindAt l k) W ∧ FuncsAt W (B + 1) fv fs
  low : Below w0.heap.size w0 W
theorem WkB.far {B : Nat} {ins : Value} {ps : Nat → Int} {fv : Value} {at_ part kind : Int} {W W' : World} {ob : Option Nat} (h : WkB B ins ps fv at_ part kind W) (hg : W.grownBy W' ob) (hob : ob ≠ some B) : WkB B ins ps fv at_ part kind W' := h.block (hg.block B h.lt (fun e => hob e.symm))
theorem KeepB.grown {B : Nat} {w w' : World} (h : KeepB B w w') : w.grownBy w' (some B) := ⟨h.os, h.tape, h.output, h.size, fun k hk hn => h.block k hk (fun e => hn (by rw [e]))⟩
theorem below_grown {w0 w w' : World} {ob : Option Nat} (h : Below w0.heap.size w0 w) (hg : w.grownBy w' ob) (hob : ∀ g, ob = some g → w0.heap.size ≤ g) : Below w0.heap.size w0 w' :=
  ⟨hg.os.trans h.os, hg.tape.trans h.tape, hg.output.trans h.output, Nat.le_trans h.size hg.size, fun k hk => (hg.block k (Nat.lt_of_lt_of_le hk h.size) (fun e => by have := hob k e.symm; omega)).trans (h.block k hk)⟩

/-- What is given. -/
structure LyC (w0 : World) (B : Nat) (a : Option Addr) (n : Nat) (l : List InstT) : Prop where
  hv : InstsV w0 a l
  hB : w0.heap.size ≤ B
  hl : l.length = n
  hn : n ≤ 1048576
  hvar : VarsOk l

theorem step_fw {w0 : World} {B : Nat} {a : Option Addr} {n c : Nat} {ps : Nat → Int} {fs : List FuncT} {l : List InstT} {k : Nat} {w : World} {fv : Value} {p q : Int} (C : LyC w0 B a n l) (hW : WkB B (.slice a n c) ps fv k p q w) (hF : FuncsAt w (B + 1) fv fs) (hb : Below w0.heap.size w0 w) (hk : k < n) :
    Calls Tryz.prog 132 #[.pointer (some ⟨B, 0, none⟩)] w fun e w' => e = .returned (.tuple #[]) ∧ FW w0 B a n c ps fs l (k + 1) w' ∧ KeepB B w w' := by
  refine (step_any B a n c ps fv k p q l w0 w hW C.hv hb C.hB C.hl (by have := C.hn; omega) C.hvar hk).mono ?_
  rintro e w' ⟨rfl, h1, h2⟩
  exact ⟨rfl, ⟨⟨fv, h1, hF.kept h2.grown (fun g e => by simp at e; omega)⟩, KeepB.low hb C.hB h2⟩, h2⟩

set_option maxHeartbeats 4000000 in
theorem last_any (w0 : World) (B : Nat) (a : Option Addr) (n c : Nat) (ps : Nat → Int) (fs : List FuncT) (f : FuncT) (l : List InstT) (k : Nat) (w : World) (hm : fs.length < 1048576) (h : FW w0 B a n c ps (fs ++ [f]) l k w) :
    Calls Tryz.prog 164 #[.pointer (some ⟨B, 0, none⟩)] w fun e w' => ∃ F c' P Q fv, e = .returned (.pointer (some ⟨F, fs.length * 5, none⟩)) ∧ WkB B (.slice a n c) ps fv k (partAt l k) (kindAt l k) w' ∧ LastF w' (B + 1) fv fs f F c' P Q ∧ Below w0.heap.size w0 w' ∧ Below w.heap.size w w' := by
  obtain ⟨⟨fv, hW, hF⟩, hlow⟩ := h
  obtain ⟨F, c', P, Q, hL⟩ := hF.last
  have HF := hide hF
  have HW := hide hW
  have HLOW := hide hlow
  have hval := hL.val
  have HC := hide hL.cap
  subst hval
  obtain ⟨_, _, d21, _, _, _, df⟩ := hW.cells
  generalize hmm : fs.length = m at *
  have hm0 : (0 : Int) ≤ (m : Int) := by omega
  have hm1 : (m : Int) < ((m + 1 : Nat) : Int) := by omega
  have hm2 : ((m + 1 : Nat) : Int) - 1 = (m : Int) := by omega
  have hm3 : IntKind.i64.wrap (m : Int) = (m : Int) := by rw [IntKind.wrap_i64]; omega
  clear hL hF hW hlow
  go_enter Tryz.func164, Tryz.ntmps164
  go_wp2_with fail
  go_quiet (fail)
  clear hm0 hm1 hm2 hm3 d21 df
  go_wp2_with fail
  have hdr : Below w.heap.size w (w.drewN nq) := ⟨rfl, rfl, rfl, Nat.le_refl _, fun _ _ => rfl⟩
  obtain ⟨F2, c2, P2, Q2, hL2⟩ := (HF.out.below hdr).last
  have e := hL2.val
  simp only [Value.slice.injEq, Option.some.injEq, Addr.mk.injEq] at e
  obtain ⟨⟨rfl, _⟩, _, rfl⟩ := e
  have HL2 := hide hL2
  go_ret
  exact ⟨F, c', P2, Q2, _, rfl, HW.out.below hdr, HL2.out, HLOW.out.trans (hdr.mono HLOW.out.size), hdr⟩

-- GENERATED by tools/mkfuncs.py
theorem then_normalL {K : Act → World → Prop} {Q : Exit → Act → World → Prop} {a : Act} {w : World} : Exit.then K Q .normal a w = K a w := rfl
theorem grown_after {w w' w'' : World} {ob : Option Nat} (h : w.grownBy w' ob) (hb : Below w'.heap.size w' w'') : w.grownBy w'' ob := ⟨hb.os.trans h.os, hb.tape.trans h.tape, hb.output.trans h.output, Nat.le_trans h.size hb.size, fun k hk hn => (hb.block k (Nat.lt_of_lt_of_le hk h.size)).trans (h.block k hk hn)⟩
theorem grown_trans7L {w w1 w2 : World} {r : Option Nat} (h : w.grownBy w1 r) (k : w1.grownBy w2 r) : w.grownBy w2 r := ⟨k.os.trans h.os, k.tape.trans h.tape, k.output.trans h.output, Nat.le_trans h.size k.size, fun i hi hr => (k.block i (Nat.lt_of_lt_of_le hi h.size) hr).trans (h.block i hi hr)⟩

set_option maxHeartbeats 4000000 in
theorem openFunction_any (w0 : World) (B : Nat) (a : Option Addr) (n c : Nat) (ps : Nat → Int) (fs : List FuncT) (l : List InstT) (k : Nat) (w : World) (C : LyC w0 B a n l) (hk : k < n) (hm : fs.length ≤ n) (h : FW w0 B a n c ps fs l k w) :
    Calls Tryz.prog 133 #[.pointer (some ⟨B, 0, none⟩)] w fun e w' => e = .returned (.tuple #[]) ∧ FW w0 B a n c ps (fs ++ [((nthI l k).2.2.1, (k : Int), [], [], 0)]) l (k + 1) w' := by
  obtain ⟨⟨fv, hW, hF⟩, hlow⟩ := h
  obtain ⟨cs, hown, hpush⟩ := hF.row
  have HW := hide hW
  have HLOW := hide hlow
  have HOWN := hide hown
  have HPUSH := hide hpush
  have hkl : k < l.length := by rw [C.hl]; exact hk
  obtain ⟨g1, o1, aj, cj, nj, rfl, hg1, p1, p2, p3, p4, p5, p6, p7⟩ := C.hv.below hlow k hkl
  have hg0 : g1 < w0.heap.size := by
    obtain ⟨g2, o2, _, _, _, e2, h2, _⟩ := C.hv k hkl
    simp only [Option.some.injEq, Addr.mk.injEq] at e2
    omega
  obtain ⟨d0, _, d21, d22, _, _, df⟩ := hW.cells
  have hBl := hW.lt
  have HC := hide C
  have hnn := C.hn
  have hBB := C.hB
  have hk0 : (0 : Int) ≤ (k : Int) := by omega
  have hkn : (k : Int) < (n : Int) := by omega
  obtain ⟨i0, hi, hz0, hz1, hz2⟩ := info_parts FuncI.info
  generalize (nthI l k).2.2.1 = id at *
  have HOB : Hid (∀ g, fv.ownBlock = some g → B + 1 ≤ g ∧ g < w.heap.size) := fun g e => hown.lt g e
  have LC : Hid (∀ w', w.grownBy w' fv.ownBlock → w'.cell? ⟨B, 0, none⟩ = some (.slice (some ⟨g1, o1, none⟩) n c) ∧ w'.cell? ⟨B, 21, none⟩ = some fv ∧ w'.cell? ⟨B, 22, none⟩ = some (.int .i64 k) ∧ w'.cell? ⟨g1, o1 + k * 4 + 2, none⟩ = some (.int .u32 id)) := fun w' hg =>
    ⟨hg.cell d0 (fun e => by have := HOB.out B e.symm; omega), hg.cell d21 (fun e => by have := HOB.out B e.symm; omega), hg.cell d22 (fun e => by have := HOB.out B e.symm; omega), hg.cell p3 (fun e => by have := HOB.out g1 e.symm; omega)⟩
  clear hF hW hlow hown hpush p1 p2 p4 p5 p6 p7 C df
  go_enter Tryz.func133, Tryz.ntmps133
  go_wp2_with fail
  have hC0 : w.grownBy w.drew fv.ownBlock := ⟨rfl, rfl, rfl, Nat.le_refl _, fun _ _ _ => rfl⟩
  have hmix : Tryz.prog.follows .mixedOrders = true := by kernel_rfl
  refine (wpIn_wide (n := 0)).1 ?_
  refine wpIn_normal (wpIn_region_any hmix (wpAnyE_sound (C := fun w' => w.grownBy w' fv.ownBlock) (E := fun i => i == 25) _ _ _ _ ?_))
  change wpAnyE _ _ _ _ _ _ _ _ _ _ _ (World.drew _)
  refine wpAnyE_takeD (i := 0) (some 2) (v := .pointer (some ⟨B, 0, none⟩)) (fun _ => trivial) (by kernel_rfl) rfl rfl (by kernel_rfl) (by kernel_rfl) (by kernel_rfl) (by kernel_rfl) (fun _ _ _ h => by cases h.1) hC0 (Or.inl ⟨by rfl, fun w' hC => by obtain ⟨e0, e21, e22, q3⟩ := LC.out w' hC; clear hC; go_simp⟩) ?_
  simp only [Act.put, List.setIfInBounds_toArray, List.set_cons_succ, List.set_cons_zero]
  refine wpAnyE_takeD (i := 1) (some 3) (v := .pointer (some ⟨B, 0, none⟩)) (fun _ => trivial) (by kernel_rfl) rfl rfl (by kernel_rfl) (by kernel_rfl) (by kernel_rfl) (by kernel_rfl) (fun _ _ _ h => by cases h.1) hC0 (Or.inl ⟨by rfl, fun w' hC => by obtain ⟨e0, e21, e22, q3⟩ := LC.out w' hC; clear hC; go_simp⟩) ?_
  simp only [Act.put, List.setIfInBounds_toArray, List.set_cons_succ, List.set_cons_zero]
  refine wpAnyE_takeD (i := 2) (some 4) (v := .pointer (some ⟨B, 0, none⟩)) (fun _ => trivial) (by kernel_rfl) rfl rfl (by kernel_rfl) (by kernel_rfl) (by kernel_rfl) (by kernel_rfl) (fun _ _ _ h => by cases h.1) hC0 (Or.inl ⟨by rfl, fun w' hC => by obtain ⟨e0, e21, e22, q3⟩ := LC.out w' hC; clear hC; go_simp⟩) ?_
  simp only [Act.put, List.setIfInBounds_toArray, List.set_cons_succ, List.set_cons_zero]
  refine wpAnyE_takeD (i := 3) (some 5) (v := .pointer (some ⟨B, 21, none⟩)) (fun _ => trivial) (by kernel_rfl) rfl rfl (by kernel_rfl) (by kernel_rfl) (by kernel_rfl) (by kernel_rfl) (fun _ _ _ h => by cases h.1) hC0 (Or.inl ⟨by rfl, fun w' hC => by obtain ⟨e0, e21, e22, q3⟩ := LC.out w' hC; clear hC; go_simp⟩) ?_
  simp only [Act.put, List.setIfInBounds_toArray, List.set_cons_succ, List.set_cons_zero]
  refine wpAnyE_takeD (i := 4) (some 6) (v := fv) (fun _ => trivial) (by kernel_rfl) rfl rfl (by kernel_rfl) (by kernel_rfl) (by kernel_rfl) (by kernel_rfl) (fun _ _ _ h => by cases h.1) hC0 (Or.inl ⟨by rfl, fun w' hC => by obtain ⟨e0, e21, e22, q3⟩ := LC.out w' hC; clear hC; go_simp⟩) ?_
  simp only [Act.put, List.setIfInBounds_toArray, List.set_cons_succ, List.set_cons_zero]
  refine wpAnyE_takeD (i := 5) (some 7) (v := .pointer (some ⟨B, 0, none⟩)) (fun _ => trivial) (by kernel_rfl) rfl rfl (by kernel_rfl) (by kernel_rfl) (by kernel_rfl) (by kernel_rfl) (fun _ _ _ h => by cases h.1) hC0 (Or.inl ⟨by rfl, fun w' hC => by obtain ⟨e0, e21, e22, q3⟩ := LC.out w' hC; clear hC; go_simp⟩) ?_
  simp only [Act.put, List.setIfInBounds_toArray, List.set_cons_succ, List.set_cons_zero]
  refine wpAnyE_takeD (i := 6) (some 8) (v := .pointer (some ⟨B, 0, none⟩)) (fun _ => trivial) (by kernel_rfl) rfl rfl (by kernel_rfl) (by kernel_rfl) (by kernel_rfl) (by kernel_rfl) (fun _ _ _ h => by cases h.1) hC0 (Or.inl ⟨by rfl, fun w' hC => by obtain ⟨e0, e21, e22, q3⟩ := LC.out w' hC; clear hC; go_simp⟩) ?_
  simp only [Act.put, List.setIfInBounds_toArray, List.set_cons_succ, List.set_cons_zero]
  refine wpAnyE_takeD (i := 7) (some 9) (v := .pointer (some ⟨B, 0, none⟩)) (fun _ => trivial) (by kernel_rfl) rfl rfl (by kernel_rfl) (by kernel_rfl) (by kernel_rfl) (by kernel_rfl) (fun _ _ _ h => by cases h.1) hC0 (Or.inl ⟨by rfl, fun w' hC => by obtain ⟨e0, e21, e22, q3⟩ := LC.out w' hC; clear hC; go_simp⟩) ?_
  simp only [Act.put, List.setIfInBounds_toArray, List.set_cons_succ, List.set_cons_zero]
  refine wpAnyE_takeD (i := 8) (some 10) (v := .slice (some ⟨g1, o1, none⟩) n c) (fun _ => trivial) (by kernel_rfl) rfl rfl (by kernel_rfl) (by kernel_rfl) (by kernel_rfl) (by kernel_rfl) (fun _ _ _ h => by cases h.1) hC0 (Or.inl ⟨by rfl, fun w' hC => by obtain ⟨e0, e21, e22, q3⟩ := LC.out w' hC; clear hC; go_simp⟩) ?_
  simp only [Act.put, List.setIfInBounds_toArray, List.set_cons_succ, List.set_cons_zero]
  refine wpAnyE_takeD (i := 9) (some 11) (v := .pointer (some ⟨B, 0, none⟩)) (fun _ => trivial) (by kernel_rfl) rfl rfl (by kernel_rfl) (by kernel_rfl) (by kernel_rfl) (by kernel_rfl) (fun _ _ _ h => by cases h.1) hC0 (Or.inl ⟨by rfl, fun w' hC => by obtain ⟨e0, e21, e22, q3⟩ := LC.out w' hC; clear hC; go_simp⟩) ?_
  simp only [Act.put, List.setIfInBounds_toArray, List.set_cons_succ, List.set_cons_zero]
  refine wpAnyE_takeD (i := 10) (some 12) (v := .pointer (some ⟨B, 0, none⟩)) (fun _ => trivial) (by kernel_rfl) rfl rfl (by kernel_rfl) (by kernel_rfl) (by kernel_rfl) (by kernel_rfl) (fun _ _ _ h => by cases h.1) hC0 (Or.inl ⟨by rfl, fun w' hC => by obtain ⟨e0, e21, e22, q3⟩ := LC.out w' hC; clear hC; go_simp⟩) ?_
  simp only [Act.put, List.setIfInBounds_toArray, List.set_cons_succ, List.set_cons_zero]
  refine wpAnyE_takeD (i := 11) (some 13) (v := .pointer (some ⟨B, 22, none⟩)) (fun _ => trivial) (by kernel_rfl) rfl rfl (by kernel_rfl) (by kernel_rfl) (by kernel_rfl) (by kernel_rfl) (fun _ _ _ h => by cases h.1) hC0 (Or.inl ⟨by rfl, fun w' hC => by obtain ⟨e0, e21, e22, q3⟩ := LC.out w' hC; clear hC; go_simp⟩) ?_
  simp only [Act.put, List.setIfInBounds_toArray, List.set_cons_succ, List.set_cons_zero]
  refine wpAnyE_takeD (i := 12) (some 14) (v := .int .i64 (k : Int)) (fun _ => trivial) (by kernel_rfl) rfl rfl (by kernel_rfl) (by kernel_rfl) (by kernel_rfl) (by kernel_rfl) (fun _ _ _ h => by cases h.1) hC0 (Or.inl ⟨by rfl, fun w' hC => by obtain ⟨e0, e21, e22, q3⟩ := LC.out w' hC; clear hC; go_simp⟩) ?_
  simp only [Act.put, List.setIfInBounds_toArray, List.set_cons_succ, List.set_cons_zero]
  refine wpAnyE_takeD (i := 13) (some 15) (v := .pointer (some ⟨g1, o1 + k * 4, none⟩)) (fun _ => trivial) (by kernel_rfl) rfl rfl (by kernel_rfl) (by kernel_rfl) (by kernel_rfl) (by kernel_rfl) (fun _ _ _ h => by cases h.1) hC0 (Or.inl ⟨by rfl, fun w' hC => by obtain ⟨e0, e21, e22, q3⟩ := LC.out w' hC; clear hC; go_simp⟩) ?_
  simp only [Act.put, List.setIfInBounds_toArray, List.set_cons_succ, List.set_cons_zero]
  refine wpAnyE_takeD (i := 14) (some 16) (v := .pointer (some ⟨g1, o1 + k * 4 + 2, none⟩)) (fun _ => trivial) (by kernel_rfl) rfl rfl (by kernel_rfl) (by kernel_rfl) (by kernel_rfl) (by kernel_rfl) (fun _ _ _ h => by cases h.1) hC0 (Or.inl ⟨by rfl, fun w' hC => by obtain ⟨e0, e21, e22, q3⟩ := LC.out w' hC; clear hC; go_simp⟩) ?_
  simp only [Act.put, List.setIfInBounds_toArray, List.set_cons_succ, List.set_cons_zero]
  refine wpAnyE_takeD (i := 15) (some 17) (v := .int .u32 id) (fun _ => trivial) (by kernel_rfl) rfl rfl (by kernel_rfl) (by kernel_rfl) (by kernel_rfl) (by kernel_rfl) (fun _ _ _ h => by cases h.1) hC0 (Or.inl ⟨by rfl, fun w' hC => by obtain ⟨e0, e21, e22, q3⟩ := LC.out w' hC; clear hC; go_simp⟩) ?_
  simp only [Act.put, List.setIfInBounds_toArray, List.set_cons_succ, List.set_cons_zero]
  refine wpAnyE_takeD (i := 16) (some 18) (v := .pointer (some ⟨B, 0, none⟩)) (fun _ => trivial) (by kernel_rfl) rfl rfl (by kernel_rfl) (by kernel_rfl) (by kernel_rfl) (by kernel_rfl) (fun _ _ _ h => by cases h.1) hC0 (Or.inl ⟨by rfl, fun w' hC => by obtain ⟨e0, e21, e22, q3⟩ := LC.out w' hC; clear hC; go_simp⟩) ?_
  simp only [Act.put, List.setIfInBounds_toArray, List.set_cons_succ, List.set_cons_zero]
  refine wpAnyE_takeD (i := 17) (some 19) (v := .pointer (some ⟨B, 0, none⟩)) (fun _ => trivial) (by kernel_rfl) rfl rfl (by kernel_rfl) (by kernel_rfl) (by kernel_rfl) (by kernel_rfl) (fun _ _ _ h => by cases h.1) hC0 (Or.inl ⟨by rfl, fun w' hC => by obtain ⟨e0, e21, e22, q3⟩ := LC.out w' hC; clear hC; go_simp⟩) ?_
  simp only [Act.put, List.setIfInBounds_toArray, List.set_cons_succ, List.set_cons_zero]
  refine wpAnyE_takeD (i := 18) (some 20) (v := .pointer (some ⟨B, 22, none⟩)) (fun _ => trivial) (by kernel_rfl) rfl rfl (by kernel_rfl) (by kernel_rfl) (by kernel_rfl) (by kernel_rfl) (fun _ _ _ h => by cases h.1) hC0 (Or.inl ⟨by rfl, fun w' hC => by obtain ⟨e0, e21, e22, q3⟩ := LC.out w' hC; clear hC; go_simp⟩) ?_
  simp only [Act.put, List.setIfInBounds_toArray, List.set_cons_succ, List.set_cons_zero]
  refine wpAnyE_takeD (i := 19) (some 21) (v := .int .i64 (k : Int)) (fun _ => trivial) (by kernel_rfl) rfl rfl (by kernel_rfl) (by kernel_rfl) (by kernel_rfl) (by kernel_rfl) (fun _ _ _ h => by cases h.1) hC0 (Or.inl ⟨by rfl, fun w' hC => by obtain ⟨e0, e21, e22, q3⟩ := LC.out w' hC; clear hC; go_simp⟩) ?_
  simp only [Act.put, List.setIfInBounds_toArray, List.set_cons_succ, List.set_cons_zero]
  refine wpAnyE_takeD (i := 20) (some 22) (v := .agg #[.int .u32 id, .int .i64 k, .slice none 0 0, .slice none 0 0, .int .i64 0]) (fun _ => trivial) (by kernel_rfl) rfl rfl (by kernel_rfl) (by kernel_rfl) (by kernel_rfl) (by kernel_rfl) (fun _ _ _ h => by cases h.1) hC0 (Or.inl ⟨by rfl, fun w' hC => by obtain ⟨e0, e21, e22, q3⟩ := LC.out w' hC; clear hC; go_simp⟩) ?_
  simp only [Act.put, List.setIfInBounds_toArray, List.set_cons_succ, List.set_cons_zero]
  refine wpAnyE_ready (rs := [21]) (by kernel_rfl) (by simp) ?_
  refine AllE.cons rfl (fun K hK => ?_) AllE.nil
  go_simp
  have hC1 : w.grownBy (w.drew.alloc (.cells #[.int .u32 id, .int .i64 k, .slice none 0 0, .slice none 0 0, .int .i64 0] 29)) fv.ownBlock := grown_after hC0 (Below.refl _ _ |>.alloc (Nat.le_refl _) _)
  refine hK _ _ (.inr hC1) ?_
  clear hK K hC0
  have N1 : Hid ((w.drew.alloc (.cells #[.int .u32 id, .int .i64 k, .slice none 0 0, .slice none 0 0, .int .i64 0] 29)).ownsRow (B + 1) 29 5 fv fs.length (cs)) := own_below HOWN.out ((Below.refl _ w).drew.alloc (by simp) _)
  have N2 : Hid (∀ (j : Nat) (u : Value), ([.int .u32 id, .int .i64 k, .slice none 0 0, .slice none 0 0, .int .i64 0] : List Value)[j]? = some u → (w.drew.alloc (.cells #[.int .u32 id, .int .i64 k, .slice none 0 0, .slice none 0 0, .int .i64 0] 29)).cell? ((⟨w.heap.size, 0, none⟩ : Addr).add j) = some u) := World.news_of_block (cs := #[.int .u32 id, .int .i64 k, .slice none 0 0, .slice none 0 0, .int .i64 0]) (t := 29) (fr := (0, 0)) (heap_alloc_new w.drew _)
  have N3 : Hid (∀ u : Value, u ∈ ([.int .u32 id, .int .i64 k, .slice none 0 0, .slice none 0 0, .int .i64 0] : List Value) → u.oneCell' = true) := by intro u hu; simp at hu; first | (rcases hu with rfl | rfl | rfl | rfl | rfl <;> rfl) | (rcases hu with rfl | rfl | rfl <;> rfl) | (rcases hu with rfl | rfl | rfl | rfl <;> rfl) | (subst hu; rfl)
  have N6 : Hid (B + 1 ≤ (w.drew.alloc (.cells #[.int .u32 id, .int .i64 k, .slice none 0 0, .slice none 0 0, .int .i64 0] 29)).heap.size) := by show _ ≤ (World.alloc _ _).heap.size; rw [World.size_alloc]; show _ ≤ w.heap.size + 1; omega
  have HSY : Hid ((w.drew.alloc (.cells #[.int .u32 id, .int .i64 k, .slice none 0 0, .slice none 0 0, .int .i64 0] 29)).heap.size = w.heap.size + 1) := by show (World.alloc _ _).heap.size = _; rw [World.size_alloc]; rfl
  refine wpAnyE_ready (rs := [22]) (by kernel_rfl) (by simp) ?_
  refine AllE.cons rfl (fun K hK => ?_) AllE.nil
  refine stepAny_lies _ (fun _ => trivial) rfl (.tmp 6) (.tmp 23) 30 rfl (B + 1) 29 i0 (.agg #[.int .u32 0, .int .i64 0, .slice none 0 0, .slice none 0 0, .int .i64 0]) 5 72 Tryz.underlying30 hi hz0 hz1 hz2 rfl (by decide) fv fs.length (cs) rfl N1.out ⟨w.heap.size, 0, none⟩ 1 1 [.int .u32 id, .int .i64 k, .slice none 0 0, .slice none 0 0, .int .i64 0] rfl rfl N2.out N3.out (by decide) (by unfold maxLen; omega) (by omega) N6.out ?_
  intro g7 cap7 w7 hown7 hgr7 hat7
  have hC7 : w.grownBy w7 fv.ownBlock := grown_trans7L hC1 hgr7
  refine hK _ _ (.inr hC7) ?_
  clear hK K
  refine wpAnyE_ready (rs := [23]) (by kernel_rfl) (by simp) ?_
  refine AllE.cons rfl (fun K hK => ?_) AllE.nil
  go_simp
  refine hK _ _ (.inr hC7) ?_
  clear hK K
  refine wpAnyE_ready (rs := [24]) (by kernel_rfl) (by simp) ?_
  refine AllE.cons rfl (fun K hK => ?_) AllE.nil
  go_simp
  refine hK _ _ (.inr hC7) ?_
  clear hK K
  have hfresh : Value.ownBlock (.slice (some ⟨g7, 0, none⟩) (fs.length + 1) cap7) = fv.ownBlock ∨ ∀ g, Value.ownBlock (.slice (some ⟨g7, 0, none⟩) (fs.length + 1) cap7) = some g → w.heap.size ≤ g := by
    rcases hat7 with h | h
    · exact .inl h.symm
    · refine .inr fun g e => ?_
      have e2 : g7 = g := by simpa [Value.ownBlock] using e
      have := h.trans HSY.out
      omega
  have HW7 := hide (HW.out.far hC7 (fun e => by have := HOB.out B e; omega))
  have y21 := HW7.out.cells.2.2.1
  have f21 := HW7.out.cells.2.2.2.2.2.2 21
  have HF7 := hide ((HPUSH.out w7 (.slice (some ⟨g7, 0, none⟩) (fs.length + 1) cap7) id k hC7 hfresh hown7).kept (grown_cell w7 B 21 (.slice (some ⟨g7, 0, none⟩) (fs.length + 1) cap7)) (fun g e => by simp at e; omega))
  have HW8 := hide (HW7.out.setFuncs (.slice (some ⟨g7, 0, none⟩) (fs.length + 1) cap7))
  have HB8 := hide (below_grown (below_grown HLOW.out hC7 (fun g e => by have := HOB.out g e; have := HC.out.hB; omega)) (grown_cell w7 B 21 (.slice (some ⟨g7, 0, none⟩) (fs.length + 1) cap7)) (fun g e => by have := HC.out.hB; simp at e; omega))
  refine wpAnyE_ready (rs := [25]) (by kernel_rfl) (by simp) ?_
  refine AllE.cons rfl (fun K hK => ?_) AllE.nil
  go_simp
  refine hK _ _ (.inl rfl) ?_
  clear hK K hC7 y21 f21 hown7 hgr7 hat7 N1 N2 N3 N6 hC1 hfresh
  refine wpAnyE_done (by kernel_rfl) ⟨rfl, ?_⟩ _
  generalize w7.setCell ⟨B, 21, none⟩ (.slice (some ⟨g7, 0, none⟩) (fs.length + 1) cap7) = Z at *
  rw [then_normalL]
  have hSt := step_fw HC.out HW8.out HF7.out HB8.out hk
  clear HF7 HW8 HB8 HW7 d0 d21 d22 p3
  go_wp2_with fail
  refine hSt.mono ?_
  rintro e w9 ⟨rfl, hq, _⟩
  have HQ := hide hq
  clear hSt hq
  go_wp2_with fail
  go_end0
  exact ⟨rfl, HQ.out⟩
set_option maxHeartbeats 4000000 in
theorem addParameter_any (w0 : World) (B : Nat) (a : Option Addr) (n c : Nat) (ps : Nat → Int) (fs : List FuncT) (f : FuncT) (l : List InstT) (k : Nat) (w : World) (C : LyC w0 B a n l) (hk : k < n) (hm : fs.length < n) (hml : f.2.2.1.length ≤ n) (h : FW w0 B a n c ps (fs ++ [f]) l k w) :
    Calls Tryz.prog 134 #[.pointer (some ⟨B, 0, none⟩)] w fun e w' => e = .returned (.tuple #[]) ∧ FW w0 B a n c ps (fs ++ [withParam k f]) l (k + 1) w' := by
  have hLa := last_any w0 B a n c ps fs f l k w (by have := C.hn; omega) h
  have HC := hide C
  have hkl : k < l.length := by rw [C.hl]; exact hk
  have hk0 : (0 : Int) ≤ (k : Int) := by omega
  have hkn : (k : Int) < (n : Int) := by omega
  have hnn := C.hn
  have hBB := C.hB
  clear h C
  go_enter Tryz.func134, Tryz.ntmps134
  go_wp2_with fail
  refine hLa.mono ?_
  rintro e w1 ⟨F, c', P, Q, fv, rfl, hW, hL, hlow, _⟩
  clear hLa
  have HW := hide hW
  have HLOW := hide hlow
  have HL := hide hL
  have HOWN := hide hL.par
  obtain ⟨d0, _, _, d22, _, _, _⟩ := hW.cells
  have dF := hL.c2
  have hFlt := hL.lt
  have hFB := hL.low
  have hBl := hW.lt
  have hFne := hL.pF
  obtain ⟨i0, hi, hz0, hz1, hz2⟩ := info_parts IntL.info
  have HOB : Hid (∀ g, P.ownBlock = some g → B + 1 ≤ g ∧ g < w1.heap.size) := fun g e => HOWN.out.lt g e
  have LC : Hid (∀ w', w1.grownBy w' P.ownBlock → w'.cell? ⟨F, fs.length * 5 + 2, none⟩ = some P ∧ w'.cell? ⟨B, 22, none⟩ = some (.int .i64 k)) := fun w' hg =>
    ⟨hg.cell dF (fun e => hFne e.symm), hg.cell d22 (fun e => by have := HOB.out B e.symm; omega)⟩
  clear hL hW hlow
  go_wp2_with fail
  have hC0 : w1.grownBy w1.drew P.ownBlock := ⟨rfl, rfl, rfl, Nat.le_refl _, fun _ _ _ => rfl⟩
  have hmix : Tryz.prog.follows .mixedOrders = true := by kernel_rfl
  refine (wpIn_wide (n := 0)).1 ?_
  refine wpIn_normal (wpIn_region_any hmix (wpAnyE_sound (C := fun w' => w1.grownBy w' P.ownBlock) (E := fun i => i == 13) _ _ _ _ ?_))
  change wpAnyE _ _ _ _ _ _ _ _ _ _ _ (World.drew _)
  refine wpAnyE_takeD (i := 0) (some 5) (v := .pointer (some ⟨F, fs.length * 5, none⟩)) (fun _ => trivial) (by kernel_rfl) rfl rfl (by kernel_rfl) (by kernel_rfl) (by kernel_rfl) (by kernel_rfl) (fun _ _ _ h => by cases h.1) hC0 (Or.inl ⟨by rfl, fun w' hC => by obtain ⟨eF, e22⟩ := LC.out w' hC; clear hC; go_simp⟩) ?_
  simp only [Act.put, List.setIfInBounds_toArray, List.set_cons_succ, List.set_cons_zero]
  refine wpAnyE_takeD (i := 1) (some 6) (v := .pointer (some ⟨F, fs.length * 5, none⟩)) (fun _ => trivial) (by kernel_rfl) rfl rfl (by kernel_rfl) (by kernel_rfl) (by kernel_rfl) (by kernel_rfl) (fun _ _ _ h => by cases h.1) hC0 (Or.inl ⟨by rfl, fun w' hC => by obtain ⟨eF, e22⟩ := LC.out w' hC; clear hC; go_simp⟩) ?_
  simp only [Act.put, List.setIfInBounds_toArray, List.set_cons_succ, List.set_cons_zero]
  refine wpAnyE_takeD (i := 2) (some 7) (v := .pointer (some ⟨F, fs.length * 5, none⟩)) (fun _ => trivial) (by kernel_rfl) rfl rfl (by kernel_rfl) (by kernel_rfl) (by kernel_rfl) (by kernel_rfl) (fun _ _ _ h => by cases h.1) hC0 (Or.inl ⟨by rfl, fun w' hC => by obtain ⟨eF, e22⟩ := LC.out w' hC; clear hC; go_simp⟩) ?_
  simp only [Act.put, List.setIfInBounds_toArray, List.set_cons_succ, List.set_cons_zero]
  refine wpAnyE_takeD (i := 3) (some 8) (v := .pointer (some ⟨F, fs.length * 5 + 2, none⟩)) (fun _ => trivial) (by kernel_rfl) rfl rfl (by kernel_rfl) (by kernel_rfl) (by kernel_rfl) (by kernel_rfl) (fun _ _ _ h => by cases h.1) hC0 (Or.inl ⟨by rfl, fun w' hC => by obtain ⟨eF, e22⟩ := LC.out w' hC; clear hC; go_simp⟩) ?_
  simp only [Act.put, List.setIfInBounds_toArray, List.set_cons_succ, List.set_cons_zero]
  refine wpAnyE_takeD (i := 4) (some 9) (v := P) (fun _ => trivial) (by kernel_rfl) rfl rfl (by kernel_rfl) (by kernel_rfl) (by kernel_rfl) (by kernel_rfl) (fun _ _ _ h => by cases h.1) hC0 (Or.inl ⟨by rfl, fun w' hC => by obtain ⟨eF, e22⟩ := LC.out w' hC; clear hC; go_simp⟩) ?_
  simp only [Act.put, List.setIfInBounds_toArray, List.set_cons_succ, List.set_cons_zero]
  refine wpAnyE_takeD (i := 5) (some 10) (v := .pointer (some ⟨B, 0, none⟩)) (fun _ => trivial) (by kernel_rfl) rfl rfl (by kernel_rfl) (by kernel_rfl) (by kernel_rfl) (by kernel_rfl) (fun _ _ _ h => by cases h.1) hC0 (Or.inl ⟨by rfl, fun w' hC => by obtain ⟨eF, e22⟩ := LC.out w' hC; clear hC; go_simp⟩) ?_
  simp only [Act.put, List.setIfInBounds_toArray, List.set_cons_succ, List.set_cons_zero]
  refine wpAnyE_takeD (i := 6) (some 11) (v := .pointer (some ⟨B, 0, none⟩)) (fun _ => trivial) (by kernel_rfl) rfl rfl (by kernel_rfl) (by kernel_rfl) (by kernel_rfl) (by kernel_rfl) (fun _ _ _ h => by cases h.1) hC0 (Or.inl ⟨by rfl, fun w' hC => by obtain ⟨eF, e22⟩ := LC.out w' hC; clear hC; go_simp⟩) ?_
  simp only [Act.put, List.setIfInBounds_toArray, List.set_cons_succ, List.set_cons_zero]
  refine wpAnyE_takeD (i := 7) (some 12) (v := .pointer (some ⟨B, 22, none⟩)) (fun _ => trivial) (by kernel_rfl) rfl rfl (by kernel_rfl) (by kernel_rfl) (by kernel_rfl) (by kernel_rfl) (fun _ _ _ h => by cases h.1) hC0 (Or.inl ⟨by rfl, fun w' hC => by obtain ⟨eF, e22⟩ := LC.out w' hC; clear hC; go_simp⟩) ?_
  simp only [Act.put, List.setIfInBounds_toArray, List.set_cons_succ, List.set_cons_zero]
  refine wpAnyE_takeD (i := 8) (some 13) (v := .int .i64 (k : Int)) (fun _ => trivial) (by kernel_rfl) rfl rfl (by kernel_rfl) (by kernel_rfl) (by kernel_rfl) (by kernel_rfl) (fun _ _ _ h => by cases h.1) hC0 (Or.inl ⟨by rfl, fun w' hC => by obtain ⟨eF, e22⟩ := LC.out w' hC; clear hC; go_simp⟩) ?_
  simp only [Act.put, List.setIfInBounds_toArray, List.set_cons_succ, List.set_cons_zero]
  refine wpAnyE_ready (rs := [9]) (by kernel_rfl) (by simp) ?_
  refine AllE.cons rfl (fun K hK => ?_) AllE.nil
  go_simp
  have hC1 : w1.grownBy (w1.drew.alloc (.cells #[.int .i64 k] 3)) P.ownBlock := grown_after hC0 (Below.refl _ _ |>.alloc (Nat.le_refl _) _)
  refine hK _ _ (.inr hC1) ?_
  clear hK K hC0
  have N1 : Hid ((w1.drew.alloc (.cells #[.int .i64 k] 3)).ownsRow (B + 1) 3 1 P f.2.2.1.length (f.2.2.1.map (Value.int .i64))) := own_below HOWN.out ((Below.refl _ w1).drew.alloc (by simp) _)
  have N2 : Hid (∀ (j : Nat) (u : Value), ([.int .i64 k] : List Value)[j]? = some u → (w1.drew.alloc (.cells #[.int .i64 k] 3)).cell? ((⟨w1.heap.size, 0, none⟩ : Addr).add j) = some u) := World.news_of_block (cs := #[.int .i64 k]) (t := 3) (fr := (0, 0)) (heap_alloc_new w1.drew _)
  have N3 : Hid (∀ u : Value, u ∈ ([.int .i64 k] : List Value) → u.oneCell' = true) := by intro u hu; simp at hu; first | (rcases hu with rfl | rfl | rfl | rfl | rfl <;> rfl) | (rcases hu with rfl | rfl | rfl <;> rfl) | (rcases hu with rfl | rfl | rfl | rfl <;> rfl) | (subst hu; rfl)
  have N6 : Hid (B + 1 ≤ (w1.drew.alloc (.cells #[.int .i64 k] 3)).heap.size) := by show _ ≤ (World.alloc _ _).heap.size; rw [World.size_alloc]; show _ ≤ w1.heap.size + 1; omega
  have HSY : Hid ((w1.drew.alloc (.cells #[.int .i64 k] 3)).heap.size = w1.heap.size + 1) := by show (World.alloc _ _).heap.size = _; rw [World.size_alloc]; rfl
  refine wpAnyE_ready (rs := [10]) (by kernel_rfl) (by simp) ?_
  refine AllE.cons rfl (fun K hK => ?_) AllE.nil
  refine stepAny_lies _ (fun _ => trivial) rfl (.tmp 9) (.tmp 14) 26 rfl (B + 1) 3 i0 (.int .i64 0) 1 8 Tryz.underlying26 hi hz0 hz1 hz2 rfl (by decide) P f.2.2.1.length (f.2.2.1.map (Value.int .i64)) rfl N1.out ⟨w1.heap.size, 0, none⟩ 1 1 [.int .i64 k] rfl rfl N2.out N3.out (by decide) (by unfold maxLen; omega) (by omega) N6.out ?_
  intro g7 cap7 w7 hown7 hgr7 hat7
  have hC7 : w1.grownBy w7 P.ownBlock := grown_trans7L hC1 hgr7
  refine hK _ _ (.inr hC7) ?_
  clear hK K
  refine wpAnyE_ready (rs := [11]) (by kernel_rfl) (by simp) ?_
  refine AllE.cons rfl (fun K hK => ?_) AllE.nil
  go_simp
  refine hK _ _ (.inr hC7) ?_
  clear hK K
  refine wpAnyE_ready (rs := [12]) (by kernel_rfl) (by simp) ?_
  refine AllE.cons rfl (fun K hK => ?_) AllE.nil
  go_simp
  refine hK _ _ (.inr hC7) ?_
  clear hK K
  have hfresh : Value.ownBlock (.slice (some ⟨g7, 0, none⟩) (f.2.2.1.length + 1) cap7) = P.ownBlock ∨ ∀ g, Value.ownBlock (.slice (some ⟨g7, 0, none⟩) (f.2.2.1.length + 1) cap7) = some g → w1.heap.size ≤ g := by
    rcases hat7 with h | h
    · exact .inl h.symm
    · refine .inr fun g e => ?_
      have e2 : g7 = g := by simpa [Value.ownBlock] using e
      have := h.trans HSY.out
      omega
  have hFF : w7.heap[F]? = w1.heap[F]? := hC7.block F hFlt (fun e => hFne e.symm)
  have yF : w7.cell? ⟨F, fs.length * 5 + 2, none⟩ = some P := (World.cell?_of_block hFF).trans dF
  have fF : w7.frozen? ⟨F, fs.length * 5 + 2, none⟩ = false := (World.frozen?_of_block hFF).trans (HL.out.frozen _)
  have HF7 := hide (HL.out.putP w7 (.slice (some ⟨g7, 0, none⟩) (f.2.2.1.length + 1) cap7) (f.2.2.1 ++ [(k : Int)]) hC7 hfresh (by rw [List.length_append, List.map_append]; exact hown7))
  have HW8 := hide (((HW.out.far hC7 (fun e => by have := HOB.out B e; omega))).far (grown_cell w7 F (fs.length * 5 + 2) (.slice (some ⟨g7, 0, none⟩) (f.2.2.1.length + 1) cap7)) (fun e => by simp at e; omega))
  have HB8 := hide (below_grown (below_grown HLOW.out hC7 (fun g e => by have := HOB.out g e; omega)) (grown_cell w7 F (fs.length * 5 + 2) (.slice (some ⟨g7, 0, none⟩) (f.2.2.1.length + 1) cap7)) (fun g e => by simp at e; omega))
  refine wpAnyE_ready (rs := [13]) (by kernel_rfl) (by simp) ?_
  refine AllE.cons rfl (fun K hK => ?_) AllE.nil
  go_simp
  refine hK _ _ (.inl rfl) ?_
  clear hK K hC7 yF fF hFF hown7 hgr7 hat7 N1 N2 N3 N6 hC1 hfresh
  refine wpAnyE_done (by kernel_rfl) ⟨rfl, ?_⟩ _
  generalize w7.setCell ⟨F, fs.length * 5 + 2, none⟩ (.slice (some ⟨g7, 0, none⟩) (f.2.2.1.length + 1) cap7) = Z at *
  rw [then_normalL]
  have hSt := step_fw HC.out HW8.out HF7.out HB8.out hk
  clear HF7 HW8 HB8 d0 d22 dF HL HOWN HW
  go_wp2_with fail
  refine hSt.mono ?_
  rintro e w9 ⟨rfl, hq, _⟩
  have HQ := hide hq
  clear hSt hq
  go_wp2_with fail
  go_end0
  exact ⟨rfl, HQ.out⟩

set_option maxHeartbeats 4000000 in
theorem openBlock_any (w0 : World) (B : Nat) (a : Option Addr) (n c : Nat) (ps : Nat → Int) (fs : List FuncT) (f : FuncT) (l : List InstT) (k : Nat) (w : World) (C : LyC w0 B a n l) (hk : k < n) (hm : fs.length < n) (hml : f.2.2.2.1.length ≤ n) (h : FW w0 B a n c ps (fs ++ [f]) l k w) :
    Calls Tryz.prog 135 #[.pointer (some ⟨B, 0, none⟩)] w fun e w' => e = .returned (.tuple #[]) ∧ FW w0 B a n c ps (fs ++ [withBlock (nthI l k).2.2.1 k f]) l (k + 1) w' := by
  have hLa := last_any w0 B a n c ps fs f l k w (by have := C.hn; omega) h
  have HC := hide C
  have hkl : k < l.length := by rw [C.hl]; exact hk
  have hk0 : (0 : Int) ≤ (k : Int) := by omega
  have hkn : (k : Int) < (n : Int) := by omega
  have hnn := C.hn
  have hBB := C.hB
  clear h C
  go_enter Tryz.func135, Tryz.ntmps135
  go_wp2_with fail
  refine hLa.mono ?_
  rintro e w1 ⟨F, c', P, Q, fv, rfl, hW, hL, hlow, _⟩
  clear hLa
  have HW := hide hW
  have HLOW := hide hlow
  have HL := hide hL
  have HOWN := hide hL.blk
  obtain ⟨d0, _, _, d22, _, _, _⟩ := hW.cells
  have dF := hL.c3
  have hFlt := hL.lt
  have hFB := hL.low
  have hBl := hW.lt
  have hFne := hL.qF
  obtain ⟨i0, hi, hz0, hz1, hz2⟩ := info_parts BlockI.info
  obtain ⟨g1, o1, aj, cj, nj, rfl, hg1, p1, p2, p3, p4, p5, p6, p7⟩ := HC.out.hv.below hlow k hkl
  have hg0 : g1 < w0.heap.size := by
    obtain ⟨g2, o2, _, _, _, e2, h2, _⟩ := HC.out.hv k hkl
    simp only [Option.some.injEq, Addr.mk.injEq] at e2
    omega
  clear p1 p2 p4 p5 p6 p7
  generalize hidx : (nthI l k).2.2.1 = id at *
  have HIDX := hide hidx
  clear hidx
  have HOB : Hid (∀ g, Q.ownBlock = some g → B + 1 ≤ g ∧ g < w1.heap.size) := fun g e => HOWN.out.lt g e
  have LC : Hid (∀ w', w1.grownBy w' Q.ownBlock → w'.cell? ⟨F, fs.length * 5 + 3, none⟩ = some Q ∧ w'.cell? ⟨B, 22, none⟩ = some (.int .i64 k) ∧ w'.cell? ⟨B, 0, none⟩ = some (.slice (some ⟨g1, o1, none⟩) n c) ∧ w'.cell? ⟨g1, o1 + k * 4 + 2, none⟩ = some (.int .u32 id)) := fun w' hg =>
    ⟨hg.cell dF (fun e => hFne e.symm), hg.cell d22 (fun e => by have := HOB.out B e.symm; omega), hg.cell d0 (fun e => by have := HOB.out B e.symm; omega), hg.cell p3 (fun e => by have := HOB.out g1 e.symm; omega)⟩
  clear hL hW hlow
  go_wp2_with fail
  have hC0 : w1.grownBy w1.drew Q.ownBlock := ⟨rfl, rfl, rfl, Nat.le_refl _, fun _ _ _ => rfl⟩
  have hmix : Tryz.prog.follows .mixedOrders = true := by kernel_rfl
  refine (wpIn_wide (n := 0)).1 ?_
  refine wpIn_normal (wpIn_region_any hmix (wpAnyE_sound (C := fun w' => w1.grownBy w' Q.ownBlock) (E := fun i => i == 25) _ _ _ _ ?_))
  change wpAnyE _ _ _ _ _ _ _ _ _ _ _ (World.drew _)
  refine wpAnyE_takeD (i := 0) (some 5) (v := .pointer (some ⟨F, fs.length * 5, none⟩)) (fun _ => trivial) (by kernel_rfl) rfl rfl (by kernel_rfl) (by kernel_rfl) (by kernel_rfl) (by kernel_rfl) (fun _ _ _ h => by cases h.1) hC0 (Or.inl ⟨by rfl, fun w' hC => by obtain ⟨eF, e22, e0, e3⟩ := LC.out w' hC; clear hC; go_simp⟩) ?_
  simp only [Act.put, List.setIfInBounds_toArray, List.set_cons_succ, List.set_cons_zero]
  refine wpAnyE_takeD (i := 1) (some 6) (v := .pointer (some ⟨F, fs.length * 5, none⟩)) (fun _ => trivial) (by kernel_rfl) rfl rfl (by kernel_rfl) (by kernel_rfl) (by kernel_rfl) (by kernel_rfl) (fun _ _ _ h => by cases h.1) hC0 (Or.inl ⟨by rfl, fun w' hC => by obtain ⟨eF, e22, e0, e3⟩ := LC.out w' hC; clear hC; go_simp⟩) ?_
  simp only [Act.put, List.setIfInBounds_toArray, List.set_cons_succ, List.set_cons_zero]
  refine wpAnyE_takeD (i := 2) (some 7) (v := .pointer (some ⟨F, fs.length * 5, none⟩)) (fun _ => trivial) (by kernel_rfl) rfl rfl (by kernel_rfl) (by kernel_rfl) (by kernel_rfl) (by kernel_rfl) (fun _ _ _ h => by cases h.1) hC0 (Or.inl ⟨by rfl, fun w' hC => by obtain ⟨eF, e22, e0, e3⟩ := LC.out w' hC; clear hC; go_simp⟩) ?_
  simp only [Act.put, List.setIfInBounds_toArray, List.set_cons_succ, List.set_cons_zero]
  refine wpAnyE_takeD (i := 3) (some 8) (v := .pointer (some ⟨F, fs.length * 5 + 3, none⟩)) (fun _ => trivial) (by kernel_rfl) rfl rfl (by kernel_rfl) (by kernel_rfl) (by kernel_rfl) (by kernel_rfl) (fun _ _ _ h => by cases h.1) hC0 (Or.inl ⟨by rfl, fun w' hC => by obtain ⟨eF, e22, e0, e3⟩ := LC.out w' hC; clear hC; go_simp⟩) ?_
  simp only [Act.put, List.setIfInBounds_toArray, List.set_cons_succ, List.set_cons_zero]
  refine wpAnyE_takeD (i := 4) (some 9) (v := Q) (fun _ => trivial) (by kernel_rfl) rfl rfl (by kernel_rfl) (by kernel_rfl) (by kernel_rfl) (by kernel_rfl) (fun _ _ _ h => by cases h.1) hC0 (Or.inl ⟨by rfl, fun w' hC => by obtain ⟨eF, e22, e0, e3⟩ := LC.out w' hC; clear hC; go_simp⟩) ?_
  simp only [Act.put, List.setIfInBounds_toArray, List.set_cons_succ, List.set_cons_zero]
  refine wpAnyE_takeD (i := 5) (some 10) (v := .pointer (some ⟨B, 0, none⟩)) (fun _ => trivial) (by kernel_rfl) rfl rfl (by kernel_rfl) (by kernel_rfl) (by kernel_rfl) (by kernel_rfl) (fun _ _ _ h => by cases h.1) hC0 (Or.inl ⟨by rfl, fun w' hC => by obtain ⟨eF, e22, e0, e3⟩ := LC.out w' hC; clear hC; go_simp⟩) ?_
  simp only [Act.put, List.setIfInBounds_toArray, List.set_cons_succ, List.set_cons_zero]
  refine wpAnyE_takeD (i := 6) (some 11) (v := .pointer (some ⟨B, 0, none⟩)) (fun _ => trivial) (by kernel_rfl) rfl rfl (by kernel_rfl) (by kernel_rfl) (by kernel_rfl) (by kernel_rfl) (fun _ _ _ h => by cases h.1) hC0 (Or.inl ⟨by rfl, fun w' hC => by obtain ⟨eF, e22, e0, e3⟩ := LC.out w' hC; clear hC; go_simp⟩) ?_
  simp only [Act.put, List.setIfInBounds_toArray, List.set_cons_succ, List.set_cons_zero]
  refine wpAnyE_takeD (i := 7) (some 12) (v := .pointer (some ⟨B, 0, none⟩)) (fun _ => trivial) (by kernel_rfl) rfl rfl (by kernel_rfl) (by kernel_rfl) (by kernel_rfl) (by kernel_rfl) (fun _ _ _ h => by cases h.1) hC0 (Or.inl ⟨by rfl, fun w' hC => by obtain ⟨eF, e22, e0, e3⟩ := LC.out w' hC; clear hC; go_simp⟩) ?_
  simp only [Act.put, List.setIfInBounds_toArray, List.set_cons_succ, List.set_cons_zero]
  refine wpAnyE_takeD (i := 8) (some 13) (v := .slice (some ⟨g1, o1, none⟩) n c) (fun _ => trivial) (by kernel_rfl) rfl rfl (by kernel_rfl) (by kernel_rfl) (by kernel_rfl) (by kernel_rfl) (fun _ _ _ h => by cases h.1) hC0 (Or.inl ⟨by rfl, fun w' hC => by obtain ⟨eF, e22, e0, e3⟩ := LC.out w' hC; clear hC; go_simp⟩) ?_
  simp only [Act.put, List.setIfInBounds_toArray, List.set_cons_succ, List.set_cons_zero]
  refine wpAnyE_takeD (i := 9) (some 14) (v := .pointer (some ⟨B, 0, none⟩)) (fun _ => trivial) (by kernel_rfl) rfl rfl (by kernel_rfl) (by kernel_rfl) (by kernel_rfl) (by kernel_rfl) (fun _ _ _ h => by cases h.1) hC0 (Or.inl ⟨by rfl, fun w' hC => by obtain ⟨eF, e22, e0, e3⟩ := LC.out w' hC; clear hC; go_simp⟩) ?_
  simp only [Act.put, List.setIfInBounds_toArray, List.set_cons_succ, List.set_cons_zero]
  refine wpAnyE_takeD (i := 10) (some 15) (v := .pointer (some ⟨B, 0, none⟩)) (fun _ => trivial) (by kernel_rfl) rfl rfl (by kernel_rfl) (by kernel_rfl) (by kernel_rfl) (by kernel_rfl) (fun _ _ _ h => by cases h.1) hC0 (Or.inl ⟨by rfl, fun w' hC => by obtain ⟨eF, e22, e0, e3⟩ := LC.out w' hC; clear hC; go_simp⟩) ?_
  simp only [Act.put, List.setIfInBounds_toArray, List.set_cons_succ, List.set_cons_zero]
  refine wpAnyE_takeD (i := 11) (some 16) (v := .pointer (some ⟨B, 22, none⟩)) (fun _ => trivial) (by kernel_rfl) rfl rfl (by kernel_rfl) (by kernel_rfl) (by kernel_rfl) (by kernel_rfl) (fun _ _ _ h => by cases h.1) hC0 (Or.inl ⟨by rfl, fun w' hC => by obtain ⟨eF, e22, e0, e3⟩ := LC.out w' hC; clear hC; go_simp⟩) ?_
  simp only [Act.put, List.setIfInBounds_toArray, List.set_cons_succ, List.set_cons_zero]
  refine wpAnyE_takeD (i := 12) (some 17) (v := .int .i64 (k : Int)) (fun _ => trivial) (by kernel_rfl) rfl rfl (by kernel_rfl) (by kernel_rfl) (by kernel_rfl) (by kernel_rfl) (fun _ _ _ h => by cases h.1) hC0 (Or.inl ⟨by rfl, fun w' hC => by obtain ⟨eF, e22, e0, e3⟩ := LC.out w' hC; clear hC; go_simp⟩) ?_
  simp only [Act.put, List.setIfInBounds_toArray, List.set_cons_succ, List.set_cons_zero]
  refine wpAnyE_takeD (i := 13) (some 18) (v := .pointer (some ⟨g1, o1 + k * 4, none⟩)) (fun _ => trivial) (by kernel_rfl) rfl rfl (by kernel_rfl) (by kernel_rfl) (by kernel_rfl) (by kernel_rfl) (fun _ _ _ h => by cases h.1) hC0 (Or.inl ⟨by rfl, fun w' hC => by obtain ⟨eF, e22, e0, e3⟩ := LC.out w' hC; clear hC; go_simp⟩) ?_
  simp only [Act.put, List.setIfInBounds_toArray, List.set_cons_succ, List.set_cons_zero]
  refine wpAnyE_takeD (i := 14) (some 19) (v := .pointer (some ⟨g1, o1 + k * 4 + 2, none⟩)) (fun _ => trivial) (by kernel_rfl) rfl rfl (by kernel_rfl) (by kernel_rfl) (by kernel_rfl) (by kernel_rfl) (fun _ _ _ h => by cases h.1) hC0 (Or.inl ⟨by rfl, fun w' hC => by obtain ⟨eF, e22, e0, e3⟩ := LC.out w' hC; clear hC; go_simp⟩) ?_
  simp only [Act.put, List.setIfInBounds_toArray, List.set_cons_succ, List.set_cons_zero]
  refine wpAnyE_takeD (i := 15) (some 20) (v := .int .u32 id) (fun _ => trivial) (by kernel_rfl) rfl rfl (by kernel_rfl) (by kernel_rfl) (by kernel_rfl) (by kernel_rfl) (fun _ _ _ h => by cases h.1) hC0 (Or.inl ⟨by rfl, fun w' hC => by obtain ⟨eF, e22, e0, e3⟩ := LC.out w' hC; clear hC; go_simp⟩) ?_
  simp only [Act.put, List.setIfInBounds_toArray, List.set_cons_succ, List.set_cons_zero]
  refine wpAnyE_takeD (i := 16) (some 21) (v := .pointer (some ⟨B, 0, none⟩)) (fun _ => trivial) (by kernel_rfl) rfl rfl (by kernel_rfl) (by kernel_rfl) (by kernel_rfl) (by kernel_rfl) (fun _ _ _ h => by cases h.1) hC0 (Or.inl ⟨by rfl, fun w' hC => by obtain ⟨eF, e22, e0, e3⟩ := LC.out w' hC; clear hC; go_simp⟩) ?_
  simp only [Act.put, List.setIfInBounds_toArray, List.set_cons_succ, List.set_cons_zero]
  refine wpAnyE_takeD (i := 17) (some 22) (v := .pointer (some ⟨B, 0, none⟩)) (fun _ => trivial) (by kernel_rfl) rfl rfl (by kernel_rfl) (by kernel_rfl) (by kernel_rfl) (by kernel_rfl) (fun _ _ _ h => by cases h.1) hC0 (Or.inl ⟨by rfl, fun w' hC => by obtain ⟨eF, e22, e0, e3⟩ := LC.out w' hC; clear hC; go_simp⟩) ?_
  simp only [Act.put, List.setIfInBounds_toArray, List.set_cons_succ, List.set_cons_zero]
  refine wpAnyE_takeD (i := 18) (some 23) (v := .pointer (some ⟨B, 22, none⟩)) (fun _ => trivial) (by kernel_rfl) rfl rfl (by kernel_rfl) (by kernel_rfl) (by kernel_rfl) (by kernel_rfl) (fun _ _ _ h => by cases h.1) hC0 (Or.inl ⟨by rfl, fun w' hC => by obtain ⟨eF, e22, e0, e3⟩ := LC.out w' hC; clear hC; go_simp⟩) ?_
  simp only [Act.put, List.setIfInBounds_toArray, List.set_cons_succ, List.set_cons_zero]
  refine wpAnyE_takeD (i := 19) (some 24) (v := .int .i64 (k : Int)) (fun _ => trivial) (by kernel_rfl) rfl rfl (by kernel_rfl) (by kernel_rfl) (by kernel_rfl) (by kernel_rfl) (fun _ _ _ h => by cases h.1) hC0 (Or.inl ⟨by rfl, fun w' hC => by obtain ⟨eF, e22, e0, e3⟩ := LC.out w' hC; clear hC; go_simp⟩) ?_
  simp only [Act.put, List.setIfInBounds_toArray, List.set_cons_succ, List.set_cons_zero]
  refine wpAnyE_takeD (i := 20) (some 25) (v := .agg #[.int .u32 id, .int .i64 k, .int .i64 0]) (fun _ => trivial) (by kernel_rfl) rfl rfl (by kernel_rfl) (by kernel_rfl) (by kernel_rfl) (by kernel_rfl) (fun _ _ _ h => by cases h.1) hC0 (Or.inl ⟨by rfl, fun w' hC => by obtain ⟨eF, e22, e0, e3⟩ := LC.out w' hC; clear hC; go_simp⟩) ?_
  simp only [Act.put, List.setIfInBounds_toArray, List.set_cons_succ, List.set_cons_zero]
  refine wpAnyE_ready (rs := [21]) (by kernel_rfl) (by simp) ?_
  refine AllE.cons rfl (fun K hK => ?_) AllE.nil
  go_simp
  have hC1 : w1.grownBy (w1.drew.alloc (.cells #[.int .u32 id, .int .i64 k, .int .i64 0] 65)) Q.ownBlock := grown_after hC0 (Below.refl _ _ |>.alloc (Nat.le_refl _) _)
  refine hK _ _ (.inr hC1) ?_
  clear hK K hC0
  have N1 : Hid ((w1.drew.alloc (.cells #[.int .u32 id, .int .i64 k, .int .i64 0] 65)).ownsRow (B + 1) 65 3 Q f.2.2.2.1.length (f.2.2.2.1.flatMap bC)) := own_below HOWN.out ((Below.refl _ w1).drew.alloc (by simp) _)
  have N2 : Hid (∀ (j : Nat) (u : Value), ([.int .u32 id, .int .i64 k, .int .i64 0] : List Value)[j]? = some u → (w1.drew.alloc (.cells #[.int .u32 id, .int .i64 k, .int .i64 0] 65)).cell? ((⟨w1.heap.size, 0, none⟩ : Addr).add j) = some u) := World.news_of_block (cs := #[.int .u32 id, .int .i64 k, .int .i64 0]) (t := 65) (fr := (0, 0)) (heap_alloc_new w1.drew _)
  have N3 : Hid (∀ u : Value, u ∈ ([.int .u32 id, .int .i64 k, .int .i64 0] : List Value) → u.oneCell' = true) := by intro u hu; simp at hu; first | (rcases hu with rfl | rfl | rfl | rfl | rfl <;> rfl) | (rcases hu with rfl | rfl | rfl <;> rfl) | (rcases hu with rfl | rfl | rfl | rfl <;> rfl) | (subst hu; rfl)
  have N6 : Hid (B + 1 ≤ (w1.drew.alloc (.cells #[.int .u32 id, .int .i64 k, .int .i64 0] 65)).heap.size) := by show _ ≤ (World.alloc _ _).heap.size; rw [World.size_alloc]; show _ ≤ w1.heap.size + 1; omega
  have HSY : Hid ((w1.drew.alloc (.cells #[.int .u32 id, .int .i64 k, .int .i64 0] 65)).heap.size = w1.heap.size + 1) := by show (World.alloc _ _).heap.size = _; rw [World.size_alloc]; rfl
  refine wpAnyE_ready (rs := [22]) (by kernel_rfl) (by simp) ?_
  refine AllE.cons rfl (fun K hK => ?_) AllE.nil
  refine stepAny_lies _ (fun _ => trivial) rfl (.tmp 9) (.tmp 26) 27 rfl (B + 1) 65 i0 (.agg #[.int .u32 0, .int .i64 0, .int .i64 0]) 3 24 Tryz.underlying27 hi hz0 hz1 hz2 rfl (by decide) Q f.2.2.2.1.length (f.2.2.2.1.flatMap bC) rfl N1.out ⟨w1.heap.size, 0, none⟩ 1 1 [.int .u32 id, .int .i64 k, .int .i64 0] rfl rfl N2.out N3.out (by decide) (by unfold maxLen; omega) (by omega) N6.out ?_
  intro g7 cap7 w7 hown7 hgr7 hat7
  have hC7 : w1.grownBy w7 Q.ownBlock := grown_trans7L hC1 hgr7
  refine hK _ _ (.inr hC7) ?_
  clear hK K
  refine wpAnyE_ready (rs := [23]) (by kernel_rfl) (by simp) ?_
  refine AllE.cons rfl (fun K hK => ?_) AllE.nil
  go_simp
  refine hK _ _ (.inr hC7) ?_
  clear hK K
  refine wpAnyE_ready (rs := [24]) (by kernel_rfl) (by simp) ?_
  refine AllE.cons rfl (fun K hK => ?_) AllE.nil
  go_simp
  refine hK _ _ (.inr hC7) ?_
  clear hK K
  have hfresh : Value.ownBlock (.slice (some ⟨g7, 0, none⟩) (f.2.2.2.1.length + 1) cap7) = Q.ownBlock ∨ ∀ g, Value.ownBlock (.slice (some ⟨g7, 0, none⟩) (f.2.2.2.1.length + 1) cap7) = some g → w1.heap.size ≤ g := by
    rcases hat7 with h | h
    · exact .inl h.symm
    · refine .inr fun g e => ?_
      have e2 : g7 = g := by simpa [Value.ownBlock] using e
      have := h.trans HSY.out
      omega
  have hFF : w7.heap[F]? = w1.heap[F]? := hC7.block F hFlt (fun e => hFne e.symm)
  have yF : w7.cell? ⟨F, fs.length * 5 + 3, none⟩ = some Q := (World.cell?_of_block hFF).trans dF
  have fF : w7.frozen? ⟨F, fs.length * 5 + 3, none⟩ = false := (World.frozen?_of_block hFF).trans (HL.out.frozen _)
  have HF7 := hide (HL.out.putQ w7 (.slice (some ⟨g7, 0, none⟩) (f.2.2.2.1.length + 1) cap7) (f.2.2.2.1 ++ [(id, (k : Int), 0)]) hC7 hfresh (by rw [List.length_append, List.flatMap_append]; exact hown7))
  have HW8 := hide (((HW.out.far hC7 (fun e => by have := HOB.out B e; omega))).far (grown_cell w7 F (fs.length * 5 + 3) (.slice (some ⟨g7, 0, none⟩) (f.2.2.2.1.length + 1) cap7)) (fun e => by simp at e; omega))
  have HB8 := hide (below_grown (below_grown HLOW.out hC7 (fun g e => by have := HOB.out g e; omega)) (grown_cell w7 F (fs.length * 5 + 3) (.slice (some ⟨g7, 0, none⟩) (f.2.2.2.1.length + 1) cap7)) (fun g e => by simp at e; omega))
  refine wpAnyE_ready (rs := [25]) (by kernel_rfl) (by simp) ?_
  refine AllE.cons rfl (fun K hK => ?_) AllE.nil
  go_simp
  refine hK _ _ (.inl rfl) ?_
  clear hK K hC7 yF fF hFF hown7 hgr7 hat7 N1 N2 N3 N6 hC1 hfresh
  refine wpAnyE_done (by kernel_rfl) ⟨rfl, ?_⟩ _
  generalize w7.setCell ⟨F, fs.length * 5 + 3, none⟩ (.slice (some ⟨g7, 0, none⟩) (f.2.2.2.1.length + 1) cap7) = Z at *
  rw [then_normalL]
  have hSt := step_fw HC.out HW8.out HF7.out HB8.out hk
  clear HF7 HW8 HB8 d0 d22 dF p3 HL HOWN HW
  go_wp2_with fail
  refine hSt.mono ?_
  rintro e w9 ⟨rfl, hq, _⟩
  have HQ := hide hq
  clear hSt hq
  go_wp2_with fail
  go_end0
  exact ⟨rfl, by rw [HIDX.out]; exact HQ.out⟩

theorem bC_len (bs : List (Int × Int × Int)) : (bs.flatMap bC).length = bs.length * 3 := by
  induction bs with
  | nil => rfl
  | cons x l ih => rw [List.flatMap_cons, List.length_append, ih]; simp [bC]; omega
theorem bC_set (bs : List (Int × Int × Int)) (b : Int × Int × Int) (k : Int) : ((bs ++ [b]).flatMap bC).set (bs.length * 3 + 2) (.int .i64 k) = (bs ++ [(b.1, b.2.1, k)]).flatMap bC := by
  rw [List.flatMap_append, List.flatMap_append, List.set_append, if_neg (by rw [bC_len]; omega), bC_len, show bs.length * 3 + 2 - bs.length * 3 = 2 by omega]
  rfl

set_option maxHeartbeats 4000000 in
theorem closeBlock_any (w0 : World) (B : Nat) (a : Option Addr) (n c : Nat) (ps : Nat → Int) (fs : List FuncT) (f : FuncT) (bs : List (Int × Int × Int)) (b : Int × Int × Int) (l : List InstT) (k : Nat) (w : World) (C : LyC w0 B a n l) (hk : k < n) (hm : fs.length < n) (hml : f.2.2.2.1.length ≤ n) (hbs : f.2.2.2.1 = bs ++ [b]) (h : FW w0 B a n c ps (fs ++ [f]) l k w) :
    Calls Tryz.prog 136 #[.pointer (some ⟨B, 0, none⟩)] w fun e w' => e = .returned (.tuple #[]) ∧ FW w0 B a n c ps (fs ++ [withTo ((k + 1 : Nat) : Int) f]) l (k + 1) w' := by
  have HTO : Hid (withTo ((k + 1 : Nat) : Int) f = (f.1, f.2.1, f.2.2.1, bs ++ [(b.1, b.2.1, ((k + 1 : Nat) : Int))], f.2.2.2.2)) := by
    show _ = _
    unfold withTo; rw [hbs, endLast_snoc]
  have hLa := fun w1 (h1 : FW w0 B a n c ps (fs ++ [f]) l (k + 1) w1) => last_any w0 B a n c ps fs f l (k + 1) w1 (by have := C.hn; omega) h1
  have hbl : bs.length + 1 ≤ n := by rw [hbs] at hml; simpa using hml
  have HBS := hide hbs
  have hnn := C.hn
  have HC := hide C
  obtain ⟨⟨fv, hW, hF⟩, hlow⟩ := h
  have hSt := step_fw C hW hF hlow hk
  generalize hkk : ((k + 1 : Nat) : Int) = kk at *
  have HKK := hide hkk
  clear hkk
  clear hW hF hlow C hbs hml
  go_enter Tryz.func136, Tryz.ntmps136
  go_wp2_with fail
  refine hSt.mono ?_
  rintro e w1 ⟨rfl, h1, _⟩
  have hLa' := hLa w1 h1
  clear hLa hSt h1
  go_wp2_with fail
  refine hLa'.mono ?_
  rintro e w2 ⟨F, c', P, Q, fv2, rfl, hW2, hL2, hlow2, _⟩
  clear hLa'
  have dF := hL2.c3
  have hqb := hL2.blk
  rw [HBS.out] at hqb
  obtain ⟨gq, cq, rfl, hq1, hq2, hq3, hq4, hq5⟩ := own_form hqb (by simp)
  have HW2 := hide hW2
  have HL2 := hide hL2
  have HLOW2 := hide hlow2
  have d22 := hW2.cells.2.2.2.1
  have hBl := hW2.lt
  have zc := hq5 (bs.length * 3 + 2) (by simp; omega)
  have zc' : ((bs ++ [b]).flatMap bC)[bs.length * 3 + 2]? = some (.int .i64 b.2.2) := by
    rw [List.flatMap_append, List.getElem?_append_right (by rw [bC_len]; omega), bC_len, show bs.length * 3 + 2 - bs.length * 3 = 2 by omega]
    rfl
  rw [zc'] at zc
  have zf := hq4 (bs.length * 3 + 2)
  have HO2 := hide (own_setAt hqb (bs.length * 3 + 2) (.int .i64 kk))
  rw [bC_set] at HO2
  have HF2 := hide (hL2.setQ (w2.setCell ⟨gq, bs.length * 3 + 2, none⟩ (.int .i64 kk)) (bs ++ [(b.1, b.2.1, kk)]) (grown_cell _ _ _ _) (by have := HO2.out; simpa using this))
  have HW3 := hide (hW2.far (grown_cell w2 gq (bs.length * 3 + 2) (.int .i64 kk)) (fun e => by simp at e; omega))
  have HB3 := hide (below_grown hlow2 (grown_cell w2 gq (bs.length * 3 + 2) (.int .i64 kk)) (fun g e => by have := HC.out.hB; simp at e; omega))
  rw [show (bs ++ [b]).length = bs.length + 1 by simp] at *
  generalize bs.length = nb at *
  have hn0 : (0 : Int) ≤ (nb : Int) := by omega
  have hn1 : (nb : Int) < ((nb + 1 : Nat) : Int) := by omega
  have hn2 : ((nb + 1 : Nat) : Int) - 1 = (nb : Int) := by omega
  have hn3 : IntKind.i64.wrap (nb : Int) = (nb : Int) := by rw [IntKind.wrap_i64]; omega
  clear hW2 hL2 hlow2 hqb hq4 hq5 zc' HO2
  go_wp2_with fail
  go_end0
  exact ⟨rfl, ⟨fv2, by rw [HKK.out]; exact HW3.out, by rw [HTO.out]; exact HF2.out⟩, HB3.out⟩

set_option maxHeartbeats 4000000 in
theorem closeFunction_any (w0 : World) (B : Nat) (a : Option Addr) (n c : Nat) (ps : Nat → Int) (fs : List FuncT) (f : FuncT) (l : List InstT) (k : Nat) (w : World) (C : LyC w0 B a n l) (hk : k < n) (hm : fs.length < n) (h : FW w0 B a n c ps (fs ++ [f]) l k w) :
    Calls Tryz.prog 137 #[.pointer (some ⟨B, 0, none⟩)] w fun e w' => e = .returned (.tuple #[]) ∧ FW w0 B a n c ps (fs ++ [withEnd k f]) l (k + 1) w' := by
  have hLa := fun w1 (h1 : FW w0 B a n c ps (fs ++ [f]) l k w1) => last_any w0 B a n c ps fs f l k w1 (by have := C.hn; omega) h1
  have HLA : Hid (∀ w1, Below w.heap.size w w1 → Calls Tryz.prog 164 #[.pointer (some ⟨B, 0, none⟩)] w1 fun e w' => ∃ F c' P Q fv, e = .returned (.pointer (some ⟨F, fs.length * 5, none⟩)) ∧ WkB B (.slice a n c) ps fv k (partAt l k) (kindAt l k) w' ∧ LastF w' (B + 1) fv fs f F c' P Q ∧ Below w0.heap.size w0 w' ∧ Below w1.heap.size w1 w') := fun w1 hb => by
    obtain ⟨⟨fv, hW, hF⟩, hlow⟩ := h
    exact hLa w1 ⟨⟨fv, hW.below hb, hF.below hb⟩, hlow.trans (hb.mono hlow.size)⟩
  obtain ⟨⟨fv, hW, hF⟩, hlow⟩ := h
  obtain ⟨_, _, _, d22, _, _, _⟩ := hW.cells
  have hBl := hW.lt
  have HC := hide C
  have hBB := C.hB
  clear hLa hW hF hlow C
  go_enter Tryz.func137, Tryz.ntmps137
  go_wp2_with fail
  go_region_with ((go_at_call 164; refine (HLA.out _ (below_drew w)).mono ?_; rintro e w4 ⟨F, c', P, Q, fv4, rfl, hW4, hL4, hlow4, hb4⟩; have d22' := hW4.cells.2.2.2.1; have dF := hL4.c4; have fF := hL4.frozen (fs.length * 5 + 4); have HW4 := hide hW4; have HL4 := hide hL4; have HLOW4 := hide hlow4; have hFB := hL4.low; clear hW4 hL4 hlow4 hb4))
  all_goals
    have HF5 := hide (HL4.out.putE k)
    have HW5 := hide (HW4.out.far (grown_cell w4 F (fs.length * 5 + 4) (.int .i64 k)) (fun e => by simp at e; omega))
    have HB5 := hide (below_grown HLOW4.out (grown_cell w4 F (fs.length * 5 + 4) (.int .i64 k)) (fun g e => by simp at e; omega))
    clear d22 d22' dF fF HL4 HW4 HLOW4 HLA
    generalize w4.setCell ⟨F, fs.length * 5 + 4, none⟩ (.int .i64 k) = Z at *
    have hSt := step_fw HC.out HW5.out HF5.out HB5.out hk
    go_wp2_with fail
    refine hSt.mono ?_
    rintro e w9 ⟨rfl, hq, _⟩
    have HQ := hide hq
    clear hSt hq
    go_wp2_with fail
    go_end0
    exact ⟨rfl, HQ.out⟩

end Go.Proofs.YtlcaedibmlidlaaGreat

/-
  A scope in which the run jumps to several labels: what holds at each jump, and a measure that every pass from a label lowers. No condition but what each names.
-/
namespace Go.Proofs.YtlcaedibmlidlaaGreat
open Go

/-- As Q; by a goto to a label: what holds there. -/
def jumps (J : Nat → Act → World → Prop) (Q : Exit → Act → World → Prop) : Exit → Act → World → Prop
  | .goto l, a, w => J l a w
  | e, a, w => Q e a w

section
variable {Q : Exit → Act → World → Prop} {J : Nat → Act → World → Prop} {a : Act} {w : World}
theorem jumps_normal : jumps J Q .normal a w = Q .normal a w := rfl
theorem jumps_exit (id : Nat) : jumps J Q (.exit id) a w = Q (.exit id) a w := rfl
theorem jumps_ret : jumps J Q .ret a w = Q .ret a w := rfl
theorem jumps_panic (ch : List PanicEntry) : jumps J Q (.panic ch) a w = Q (.panic ch) a w := rfl
theorem jumps_goto (l : Nat) : jumps J Q (.goto l) a w = J l a w := rfl
end

theorem wp_scope_many {P : Program} {a : Act} {w : World} {Q : Exit → Act → World → Prop} {c : Code} (rest : Nat → Code) (J : Nat → Act → World → Prop) (μ : Nat → Act → World → Nat) (hf : ∀ l a w, J l a w → findLabel c l = some (rest l))
    (first : c.wp P (jumps J Q) a w)
    (pass : ∀ l a w, J l a w → (rest l).wp P (jumps (fun l' a' w' => J l' a' w' ∧ μ l' a' w' < μ l a w) Q) a w) : (Code.scope c).wp P Q a w := by
  intro b k cs
  have hg : ∀ l a w, J l a w → gotoIn l (.inScope c :: k) = some (.code (rest l) :: .inScope c :: k) := fun l a w h => by simp [gotoIn, hf l a w h]
  have key : ∀ n l a w, μ l a w = n → J l a w → ∃ e a' w', Q e a' w' ∧ Arrives P (lone (b.at a (.code (rest l) :: .inScope c :: k)) cs w) b k cs e a' w' := by
    intro n
    induction n using Nat.strongRecOn with
    | _ n ih =>
      intro l a w hn hJ
      obtain ⟨e, a₁, w₁, hq, harr⟩ := pass l a w hJ b (.inScope c :: k) cs
      cases e with
      | normal => exact ⟨.normal, a₁, w₁, hq, Steps.trans harr (.one step_inScope)⟩
      | exit id => exact ⟨.exit id, a₁, w₁, hq, fun k' hk => harr k' (by simp [exitTo, hk])⟩
      | goto l' =>
        obtain ⟨hJ', hlt⟩ := hq
        obtain ⟨e₂, a₂, w₂, hq₂, harr₂⟩ := ih _ (by omega) l' a₁ w₁ rfl hJ'
        exact ⟨e₂, a₂, w₂, hq₂, .of_steps (harr _ (hg l' _ _ hJ')) harr₂⟩
      | ret => exact ⟨_, a₁, w₁, hq, harr⟩
      | panic ch => exact ⟨_, a₁, w₁, hq, harr⟩
      | outgrown => exact ⟨_, a₁, w₁, hq, harr⟩
  obtain ⟨e, a₁, w₁, hq, harr⟩ := first b (.inScope c :: k) cs
  cases e with
  | normal => exact ⟨.normal, a₁, w₁, hq, .head step_scope (Steps.trans harr (.one step_inScope))⟩
  | exit id => exact ⟨.exit id, a₁, w₁, hq, fun k' hk => .head step_scope (harr k' (by simp [exitTo, hk]))⟩
  | goto l' =>
    obtain ⟨e₂, a₂, w₂, hq₂, harr₂⟩ := key _ l' a₁ w₁ rfl hq
    exact ⟨e₂, a₂, w₂, hq₂, .of_steps (.head step_scope (harr _ (hg l' _ _ hq))) harr₂⟩
  | ret => exact ⟨_, a₁, w₁, hq, .of_steps (.one step_scope) harr⟩
  | panic ch => exact ⟨_, a₁, w₁, hq, .of_steps (.one step_scope) harr⟩
  | outgrown => exact ⟨_, a₁, w₁, hq, .of_steps (.one step_scope) harr⟩

/-- What stands behind a label. -/
def behind : Option Code → Code
  | some (.seq .skip x) => x
  | _ => .skip

/-- The same law, label by label in an order: a pass may go on into a label that is before it in that order. -/
theorem wp_scope_ranked {P : Program} {a : Act} {w : World} {Q : Exit → Act → World → Prop} {c : Code} (J : Nat → Act → World → Prop) (μ : Nat → Act → World → Nat) (ord : Nat → Nat)
    (hf : ∀ l a w, J l a w → findLabel c l = some (.seq .skip (behind (findLabel c l))))
    (pass : ∀ l, (∀ l', ord l' < ord l → ∀ N a w, J l' a w → μ l' a w ≤ N → (behind (findLabel c l')).wp P (jumps (fun l' a' w' => J l' a' w' ∧ μ l' a' w' < N) Q) a w) →
      ∀ N a w, J l a w → μ l a w ≤ N → (behind (findLabel c l)).wp P (jumps (fun l' a' w' => J l' a' w' ∧ μ l' a' w' < N) Q) a w)
    (first : (∀ l a w, J l a w → (behind (findLabel c l)).wp P (jumps J Q) a w) → c.wp P (jumps J Q) a w) : (Code.scope c).wp P Q a w := by
  have all : ∀ n l, ord l = n → ∀ N a w, J l a w → μ l a w ≤ N → (behind (findLabel c l)).wp P (jumps (fun l' a' w' => J l' a' w' ∧ μ l' a' w' < N) Q) a w := by
    intro n
    induction n using Nat.strongRecOn with
    | _ n ih =>
      intro l hl
      exact pass l fun l' hlt => ih (ord l') (by omega) l' rfl
  refine wp_scope_many (fun l => .seq .skip (behind (findLabel c l))) J μ hf (first fun l a w h => ?_) (fun l a w h => wp_seq (wp_skip (all _ l rfl _ a w h (Nat.le_refl _))))
  refine wp_mono (all _ l rfl _ a w h (Nat.le_refl _)) fun e a' w' hq => ?_
  cases e with
  | goto l' => exact hq.1
  | normal => exact hq
  | exit id => exact hq
  | ret => exact hq
  | panic ch => exact hq
  | outgrown => exact hq

end Go.Proofs.YtlcaedibmlidlaaGreat
