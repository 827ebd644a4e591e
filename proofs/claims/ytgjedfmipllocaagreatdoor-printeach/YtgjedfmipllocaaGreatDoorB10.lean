/-
  Texts laid together in one: LexBuilder, PrintPage, MathX, MathZ.
-/
import Derived.WalkSpells
import Derived.Shelf.Strings.BuilderK
import Derived.Test.YtgjedfmipllocaaGreatDoorProg
import Derived.Test.YtgjedfmipllocaaGreatDoorB09
/-
  What copyCheck, WriteByte, WriteString and String of a strings.Builder return, of a builder that the call itself has made: the bytes that it holds, up to Go's own limit of a length; every block but the builder's own and rows of bytes stands as it stood.
-/
namespace Go.Proofs.YtgjedfmipllocaaGreatDoor
open Go.RowKit Go.Shelf
set_option maxRecDepth 10000
set_option linter.unusedVariables false
set_option linter.unusedSimpArgs false

/-- A builder in a block of its own that holds these bytes. -/
def Bld (B b : Nat) (zs : List Int) (w : World) : Prop := Lib.IsBuilderF 159 5 B b (zs.map (Value.int .u8)) w

theorem bld_lt {B b : Nat} {zs : List Int} {w : World} (h : Bld B b zs w) : b < w.heap.size := by
  rcases h with h | h
  · exact h.lt
  · exact h.lt
theorem bld_new (w : World) (B : Nat) (hB : B ≤ w.heap.size) : Bld B w.heap.size [] (w.alloc (.cells #[.pointer none, .slice none 0 0] 159)) :=
  .inl ⟨hB, .slice none 0 0, heap_alloc_new w _, World.ownsRowF_nil _ _ _ _, by simp [Value.ownBlock]⟩
/-- A turn elsewhere, in a block that is no row of bytes, leaves it. -/
theorem bld_kept {B b : Nat} {zs : List Int} {w w' : World} {row : Option Nat} (h : Bld B b zs w) (hg : w.grownBy w' row) (hb : row ≠ some b) (hr : ∀ r, row = some r → ∀ c fz, w.heap[r]? ≠ some (.cells c 5 fz)) : Bld B b zs w' := by
  have key : ∀ p, Lib.BuilderAtF 159 5 B b p (zs.map (Value.int .u8)) w → Lib.BuilderAtF 159 5 B b p (zs.map (Value.int .u8)) w' := by
    intro p hp
    have hlt := hp.lt
    obtain ⟨hB, v, hbk, hown, hne⟩ := hp
    refine ⟨hB, v, (hg.block b hlt (fun e => hb e.symm)).trans hbk, hown.kept hg ?_, hne⟩
    cases hv : v.ownBlock with
    | none => exact .inl rfl
    | some g =>
      refine .inr fun e => ?_
      obtain ⟨c, fz, hc⟩ := Lib.ownsRowF_kind hown g hv
      exact hr g e.symm c fz hc
  rcases h with h | h
  · exact .inl (key _ h)
  · exact .inr (key _ h)
theorem bld_below {B b : Nat} {zs : List Int} {w w' : World} (h : Bld B b zs w) (hb : Below w.heap.size w w') : Bld B b zs w' :=
  bld_kept h (row := none) ⟨hb.os, hb.tape, hb.output, hb.size, fun k hk _ => hb.block k hk⟩ (by simp) (fun r e => by cases e)
theorem bld_alloc {B b : Nat} {zs : List Int} {w : World} (h : Bld B b zs w) (o : Obj) : Bld B b zs (w.alloc o) := bld_below h ((Below.refl _ w).alloc (Nat.le_refl _) o)

theorem Bld.size : (Tryz.prog.info? 159).map (fun i => i.size) = some 2 := by kernel_rfl
theorem Bld.lies : liesAt Tryz.prog Tryz.prog.depth 159 (2 / Tryz.prog.cellsOf 159) 0 159 1 = true := by kernel_rfl
theorem Bld.info : (Tryz.prog.info? 5).map (fun i => (i.zero, i.size, i.bytes)) = some (some (.int .u8 0), 1, 1) := by kernel_rfl

set_option maxHeartbeats 1000000 in
theorem copyCheck_used (b : Nat) (w : World) (h0 : w.cell? ⟨b, 0, none⟩ = some (.pointer (some ⟨b, 0, none⟩))) :
    Calls Tryz.prog 153 #[.pointer (some ⟨b, 0, none⟩)] w fun e w' => e = .returned (.tuple #[]) ∧ w = w' := by
  obtain ⟨j, hj, _⟩ := Option.map_eq_some_iff.1 Bld.size
  go_enter Tryz.func153, Tryz.ntmps153
  go_wp2
  rw [Lib.run_neq_ptr_same w _ Tryz.underlying156 hj]
  go_wp2
  go_end0
  exact ⟨rfl, rfl⟩

set_option maxHeartbeats 1000000 in
theorem copyCheck_fresh (b : Nat) (w : World) (h0 : w.cell? ⟨b, 0, none⟩ = some (.pointer none)) (hsh : w.shape? b = some (159, 2)) (hfz : w.frozen? ⟨b, 0, none⟩ = false) :
    Calls Tryz.prog 153 #[.pointer (some ⟨b, 0, none⟩)] w fun e w' => e = .returned (.tuple #[]) ∧ w' = w.setCell ⟨b, 0, none⟩ (.pointer (some ⟨b, 0, none⟩)) := by
  obtain ⟨j, hj, hjs⟩ := Option.map_eq_some_iff.1 Bld.size
  go_enter Tryz.func153, Tryz.ntmps153
  go_wp2
  rw [Lib.run_to_unsafe w ⟨b, 0, none⟩ Tryz.underlying156 Tryz.underlying301 hj (by rw [hjs]; decide) hsh (Nat.zero_lt_succ 1)]
  simp only [Result.andThen]
  rw [Oper.upon_value]
  go_wp2
  rw [run_callFunc_extern Tryz.func210 (by kernel_rfl) (by kernel_rfl) (by kernel_rfl) (e := Extern.AbiNoEscape.same) (by kernel_rfl)]
  rw [Lib.run_noEscape]
  simp only [Result.andThen]
  rw [Oper.upon_value]
  go_wp2
  rw [Lib.run_from_unsafe w ⟨b, 0, none⟩ Tryz.underlying301 Tryz.underlying156 hj hsh Bld.lies]
  simp only [Result.andThen]
  rw [Oper.upon_value]
  go_wp2
  go_end0
  exact ⟨rfl, rfl⟩

theorem copyCheck_any (B b : Nat) (bs : List Value) (w : World) (h : Lib.IsBuilderF 159 5 B b bs w) :
    Calls Tryz.prog 153 #[.pointer (some ⟨b, 0, none⟩)] w fun e w' => e = .returned (.tuple #[]) ∧ (Lib.BuilderAtF 159 5 B b (.pointer (some ⟨b, 0, none⟩)) bs w' ∧ Below B w w' ∧ Lib.OthersKept 5 (some b) w w') := by
  rcases h with h | h
  · refine (copyCheck_fresh b w h.cell0 h.shape h.frozen0).mono ?_
    rintro e w' ⟨rfl, rfl⟩
    exact ⟨rfl, h.used _, (Below.refl B w).setCell (p := ⟨b, 0, none⟩) h.1 _, (Lib.OthersKept.refl _ _ w).setCell ⟨b, 0, none⟩ rfl _⟩
  · refine (copyCheck_used b w h.cell0).mono ?_
    rintro e w' ⟨rfl, rfl⟩
    exact ⟨rfl, h, Below.refl B _, Lib.OthersKept.refl _ _ _⟩

set_option maxHeartbeats 2000000 in
theorem writeByte_any (B b : Nat) (zs : List Int) (c : Int) (w : World) (h : Bld B b zs w) (hlen : zs.length + 1 ≤ 140737488355328) (hBw : B ≤ w.heap.size) :
    Calls Tryz.prog 106 #[.pointer (some ⟨b, 0, none⟩), .int .u8 c] w fun e w' => e = .returned .nilIface ∧ Bld B b (zs ++ [c]) w' ∧ Below B w w' ∧ Lib.OthersKept 5 (some b) w w' := by
  obtain ⟨i0, hi, hz0, hz1, hz2⟩ := info_parts Bld.info
  have hC := copyCheck_any B b _ w h
  have HL : Hid ((zs.map (Value.int .u8)).length = zs.length) := List.length_map _
  clear h
  go_enter Tryz.func106, Tryz.ntmps106
  go_wp2_with fail
  refine hC.mono ?_
  rintro e w1 ⟨rfl, h1, hb1, hk1⟩
  obtain ⟨hB, v, hbk, hown, hne⟩ := h1
  have c1 : w1.cell? ⟨b, 1, none⟩ = some v := by rw [Lib.cell_of_heap hbk]; rfl
  rw [HL.out] at hown
  clear hC
  go_wp2_with (at_builtin; refine wpList_append_ownF _ rfl _ _ 157 rfl B 5 i0 (.int .u8 0) 1 1 Tryz.underlying157 hi hz0 hz1 hz2 rfl (by decide) _ _ _ rfl (hown.alloc _) ⟨w1.heap.size, 0, none⟩ 1 1 [.int .u8 c] rfl rfl ?c1 ?c2 ?c3 ?c4 ?c5 ?_)
  case c1 =>
    intro j u hj
    match j, hj with
    | 0, hj => simp at hj; subst hj; simp [Addr.add]
  case c2 => intro u hu; simp at hu; subst hu; rfl
  case c3 => unfold maxLen; omega
  case c4 => omega
  case c5 => have := hb1.size; simp; omega
  intro v' w2 hown' hgrow _
  have hlt : b < w1.heap.size := (Array.getElem?_eq_some_iff.1 hbk).1
  have hb2 : w2.heap[b]? = some (.cells #[.pointer (some ⟨b, 0, none⟩), v] 159 (0, 0)) := by
    rw [hgrow.block b (by simp; omega) (fun e => hne e.symm), Lib.alloc_old w1 _ b hlt]
    exact hbk
  have d1 : w2.cell? ⟨b, 1, none⟩ = some v := by rw [Lib.cell_of_heap hb2]; rfl
  have f1 : w2.frozen? ⟨b, 1, none⟩ = false := Lib.frozen_of_heap hb2 1
  obtain ⟨g, cap, rfl⟩ : ∃ g cap, v' = .slice (some ⟨g, 0, none⟩) (zs.length + 1) cap := by
    rcases hown'.2 with ⟨_, h0⟩ | ⟨g, cap, cur, fz, hv, _⟩
    · omega
    · exact ⟨g, cap, hv⟩
  have HP := Lib.BuilderAtF.put (T := 159) (e := 5) hB hb2 (bs' := zs.map (Value.int .u8) ++ [.int .u8 c]) (by simpa using hown') (by decide)
  have HB := ((hb1.alloc (by have := hb1.size; omega) _).grown hgrow (by have := hb1.size; simp; omega) (fun k hk => (hown.lt k hk).1)).setCell (p := ⟨b, 1, none⟩) hB (.slice (some ⟨g, 0, none⟩) (zs.length + 1) cap)
  have HO := ((hk1.alloc _).grown hgrow (Lib.ownsRowF_kind (hown.alloc _))).setCell ⟨b, 1, none⟩ rfl (.slice (some ⟨g, 0, none⟩) (zs.length + 1) cap)
  clear hown hown' hgrow hb1 hk1
  go_wp2
  go_ret
  exact ⟨rfl, by refine .inr ?_; rw [List.map_append]; exact HP, HB, HO⟩

set_option maxHeartbeats 2000000 in
theorem writeString_any (B b : Nat) (zs : List Int) (s : ByteArray) (w : World) (h : Bld B b zs w) (hlen : zs.length + s.size ≤ 140737488355328) (hBw : B ≤ w.heap.size) :
    Calls Tryz.prog 107 #[.pointer (some ⟨b, 0, none⟩), .string s] w fun e w' => e = .returned (.tuple #[.int .i64 s.size, .nilIface]) ∧ Bld B b (zs ++ strI s) w' ∧ Below B w w' ∧ Lib.OthersKept 5 (some b) w w' := by
  obtain ⟨i0, hi, hz0, hz1, hz2⟩ := info_parts Bld.info
  have hC := copyCheck_any B b _ w h
  have HL : Hid ((zs.map (Value.int .u8)).length = zs.length) := List.length_map _
  have HS : Hid (Lib.strCells s = (strI s).map (Value.int .u8)) := by show _ = _; simp [Lib.strCells, strI]
  clear h
  go_enter Tryz.func107, Tryz.ntmps107
  go_wp2_with fail
  refine hC.mono ?_
  rintro e w1 ⟨rfl, h1, hb1, hk1⟩
  obtain ⟨hB, v, hbk, hown, hne⟩ := h1
  have c1 : w1.cell? ⟨b, 1, none⟩ = some v := by rw [Lib.cell_of_heap hbk]; rfl
  rw [HL.out] at hown
  clear hC
  go_wp2_with (at_builtin; refine Lib.wpList_append_own_stringF _ rfl _ _ 157 9 rfl B 5 i0 Tryz.underlying157 Tryz.underlying9 hi hz0 hz1 hz2 _ _ _ rfl hown s rfl ?c3 ?c4 ?c5 ?_)
  case c3 => unfold maxLen; omega
  case c4 => omega
  case c5 => have := hb1.size; omega
  intro v' w2 hown' hgrow _
  have hlt : b < w1.heap.size := (Array.getElem?_eq_some_iff.1 hbk).1
  have hb2 : w2.heap[b]? = some (.cells #[.pointer (some ⟨b, 0, none⟩), v] 159 (0, 0)) := by
    rw [hgrow.block b hlt (fun e => hne e.symm)]
    exact hbk
  have d1 : w2.cell? ⟨b, 1, none⟩ = some v := by rw [Lib.cell_of_heap hb2]; rfl
  have f1 : w2.frozen? ⟨b, 1, none⟩ = false := Lib.frozen_of_heap hb2 1
  obtain ⟨ao, n', cap, rfl⟩ : ∃ ao n' cap, v' = .slice ao n' cap := by
    rcases hown'.2 with ⟨hv, _⟩ | ⟨g, cap, cur, fz, hv, _⟩
    · exact ⟨_, _, _, hv⟩
    · exact ⟨_, _, _, hv⟩
  have HP := Lib.BuilderAtF.put (T := 159) (e := 5) hB hb2 (bs' := zs.map (Value.int .u8) ++ Lib.strCells s) (by simpa [Lib.strCells_length] using hown') (by decide)
  have HB := (hb1.grown hgrow (by have := hb1.size; omega) (fun k hk => (hown.lt k hk).1)).setCell (p := ⟨b, 1, none⟩) hB (.slice ao n' cap)
  have HO := (hk1.grown hgrow (Lib.ownsRowF_kind hown)).setCell ⟨b, 1, none⟩ rfl (.slice ao n' cap)
  rw [HS.out] at HP
  clear hown hown' hgrow hb1 hk1
  go_wp2
  go_ret2
  exact ⟨rfl, by refine .inr ?_; rw [List.map_append]; exact HP, HB, HO⟩

def Bld.ren : Go.Shelf.Ren := ⟨fun | 169 => 80 | n => n, fun | 70 => 156 | 9 => 9 | 0 => 0 | 72 => 159 | 37 => 157 | 127 => 242 | 3 => 3 | 5 => 5 | n => n, fun | n => n⟩
theorem Bld.lays : Go.Proofs.Lays.n169 Tryz.prog Bld.ren := {
  mixed := by kernel_rfl
  f169 := Tryz.func80.trans (congrArg some (by kernel_rfl))
  t0 := Tryz.underlying0
  a0 := Tryz.isAgg0
  z0 := Tryz.sizeOf0
  v0 := Tryz.zeroValue0
  t3 := Tryz.underlying3
  a3 := Tryz.isAgg3
  z3 := Tryz.sizeOf3
  v3 := Tryz.zeroValue3
  t9 := Tryz.underlying9
  a9 := Tryz.isAgg9
  z9 := Tryz.sizeOf9
  v9 := Tryz.zeroValue9
  t37 := Tryz.underlying157
  a37 := Tryz.isAgg157
  z37 := Tryz.sizeOf157
  v37 := Tryz.zeroValue157
  t70 := Tryz.underlying156
  a70 := Tryz.isAgg156
  z70 := Tryz.sizeOf156
  v70 := Tryz.zeroValue156
  t72 := Tryz.underlying159
  a72 := Tryz.isAgg159
  z72 := Tryz.sizeOf159
  v72 := Tryz.zeroValue159
  t127 := Tryz.underlying242
  a127 := Tryz.isAgg242
  z127 := Tryz.sizeOf242
  v127 := Tryz.zeroValue242 }
theorem Bld.extra : Builder.Extra Tryz.prog Bld.ren := {
  sizeBuilder := by kernel_rfl
  liesBuilder := by kernel_rfl
  t5 := Tryz.underlying5
  a5 := Tryz.isAgg5
  z5 := Tryz.sizeOf5
  v5 := Tryz.zeroValue5
  infoByte := by kernel_rfl
  cellsByte := by kernel_rfl
  sizeByte := by kernel_rfl
  neB5 := by decide }

theorem within_bytes {zs : List Int} (h : Within 256 zs) : zs.map (Value.int .u8) = Lib.byteCells (zs.map fun n => UInt8.ofNat n.toNat) := by
  unfold Lib.byteCells
  rw [List.map_map]
  apply List.map_congr_left
  intro z hz
  have := h z hz
  have hlt : z.toNat < 256 := by omega
  simp only [Function.comp_def]
  rw [UInt8.toNat_ofNat_of_lt' (by simpa using hlt)]
  congr 1; omega

theorem buildString_any (B b : Nat) (zs : List Int) (w : World) (h : Bld B b zs w) (hz : Within 256 zs) (hBw : B ≤ w.heap.size) :
    Calls Tryz.prog 80 #[.pointer (some ⟨b, 0, none⟩)] w fun e w' => e = .returned (.string (strOfNums zs)) ∧ Bld B b zs w' ∧ Below B w w' ∧ Lib.OthersKept 5 (some b) w w' := by
  unfold Bld at h ⊢
  rw [within_bytes hz] at h ⊢
  exact Any.Builder_String_any_k Bld.lays Bld.extra B b _ w h hBw

end Go.Proofs.YtgjedfmipllocaaGreatDoor

/-
  What copyCheck, WriteByte, WriteString and String of a strings.Builder return, of a builder that the call itself has made: the bytes that it holds, up to Go's own limit of a length; every block but the builder's own and rows of bytes stands as it stood.
-/
namespace Go.Proofs.YtgjedfmipllocaaGreatDoor
open Go.RowKit Go.Shelf
set_option maxRecDepth 10000
set_option linter.unusedVariables false
set_option linter.unusedSimpArgs false

/-- A builder in a block of its own that holds these bytes. -/
def Pge (B b : Nat) (zs : List Int) (w : World) : Prop := Lib.IsBuilderF 178 5 B b (zs.map (Value.int .u8)) w

theorem pge_lt {B b : Nat} {zs : List Int} {w : World} (h : Pge B b zs w) : b < w.heap.size := by
  rcases h with h | h
  · exact h.lt
  · exact h.lt
theorem pge_new (w : World) (B : Nat) (hB : B ≤ w.heap.size) : Pge B w.heap.size [] (w.alloc (.cells #[.pointer none, .slice none 0 0] 178)) :=
  .inl ⟨hB, .slice none 0 0, heap_alloc_new w _, World.ownsRowF_nil _ _ _ _, by simp [Value.ownBlock]⟩
/-- A turn elsewhere, in a block that is no row of bytes, leaves it. -/
theorem pge_kept {B b : Nat} {zs : List Int} {w w' : World} {row : Option Nat} (h : Pge B b zs w) (hg : w.grownBy w' row) (hb : row ≠ some b) (hr : ∀ r, row = some r → ∀ c fz, w.heap[r]? ≠ some (.cells c 5 fz)) : Pge B b zs w' := by
  have key : ∀ p, Lib.BuilderAtF 178 5 B b p (zs.map (Value.int .u8)) w → Lib.BuilderAtF 178 5 B b p (zs.map (Value.int .u8)) w' := by
    intro p hp
    have hlt := hp.lt
    obtain ⟨hB, v, hbk, hown, hne⟩ := hp
    refine ⟨hB, v, (hg.block b hlt (fun e => hb e.symm)).trans hbk, hown.kept hg ?_, hne⟩
    cases hv : v.ownBlock with
    | none => exact .inl rfl
    | some g =>
      refine .inr fun e => ?_
      obtain ⟨c, fz, hc⟩ := Lib.ownsRowF_kind hown g hv
      exact hr g e.symm c fz hc
  rcases h with h | h
  · exact .inl (key _ h)
  · exact .inr (key _ h)
theorem pge_below {B b : Nat} {zs : List Int} {w w' : World} (h : Pge B b zs w) (hb : Below w.heap.size w w') : Pge B b zs w' :=
  pge_kept h (row := none) ⟨hb.os, hb.tape, hb.output, hb.size, fun k hk _ => hb.block k hk⟩ (by simp) (fun r e => by cases e)
theorem Pge.lies : liesAt Tryz.prog Tryz.prog.depth 178 (2 / Tryz.prog.cellsOf 178) 0 159 1 = true := by kernel_rfl

set_option maxHeartbeats 1000000 in
theorem pgeCheck_used (b : Nat) (w : World) (h0 : w.cell? ⟨b, 0, none⟩ = some (.pointer (some ⟨b, 0, none⟩))) :
    Calls Tryz.prog 153 #[.pointer (some ⟨b, 0, none⟩)] w fun e w' => e = .returned (.tuple #[]) ∧ w = w' := by
  obtain ⟨j, hj, _⟩ := Option.map_eq_some_iff.1 Bld.size
  go_enter Tryz.func153, Tryz.ntmps153
  go_wp2
  rw [Lib.run_neq_ptr_same w _ Tryz.underlying156 hj]
  go_wp2
  go_end0
  exact ⟨rfl, rfl⟩

set_option maxHeartbeats 1000000 in
theorem pgeCheck_fresh (b : Nat) (w : World) (h0 : w.cell? ⟨b, 0, none⟩ = some (.pointer none)) (hsh : w.shape? b = some (178, 2)) (hfz : w.frozen? ⟨b, 0, none⟩ = false) :
    Calls Tryz.prog 153 #[.pointer (some ⟨b, 0, none⟩)] w fun e w' => e = .returned (.tuple #[]) ∧ w' = w.setCell ⟨b, 0, none⟩ (.pointer (some ⟨b, 0, none⟩)) := by
  obtain ⟨j, hj, hjs⟩ := Option.map_eq_some_iff.1 Bld.size
  go_enter Tryz.func153, Tryz.ntmps153
  go_wp2
  rw [Lib.run_to_unsafe w ⟨b, 0, none⟩ Tryz.underlying156 Tryz.underlying301 hj (by rw [hjs]; decide) hsh (Nat.zero_lt_succ 1)]
  simp only [Result.andThen]
  rw [Oper.upon_value]
  go_wp2
  rw [run_callFunc_extern Tryz.func210 (by kernel_rfl) (by kernel_rfl) (by kernel_rfl) (e := Extern.AbiNoEscape.same) (by kernel_rfl)]
  rw [Lib.run_noEscape]
  simp only [Result.andThen]
  rw [Oper.upon_value]
  go_wp2
  rw [Lib.run_from_unsafe w ⟨b, 0, none⟩ Tryz.underlying301 Tryz.underlying156 hj hsh Pge.lies]
  simp only [Result.andThen]
  rw [Oper.upon_value]
  go_wp2
  go_end0
  exact ⟨rfl, rfl⟩

theorem pgeCheck_any (B b : Nat) (bs : List Value) (w : World) (h : Lib.IsBuilderF 178 5 B b bs w) :
    Calls Tryz.prog 153 #[.pointer (some ⟨b, 0, none⟩)] w fun e w' => e = .returned (.tuple #[]) ∧ (Lib.BuilderAtF 178 5 B b (.pointer (some ⟨b, 0, none⟩)) bs w' ∧ Below B w w' ∧ Lib.OthersKept 5 (some b) w w') := by
  rcases h with h | h
  · refine (pgeCheck_fresh b w h.cell0 h.shape h.frozen0).mono ?_
    rintro e w' ⟨rfl, rfl⟩
    exact ⟨rfl, h.used _, (Below.refl B w).setCell (p := ⟨b, 0, none⟩) h.1 _, (Lib.OthersKept.refl _ _ w).setCell ⟨b, 0, none⟩ rfl _⟩
  · refine (pgeCheck_used b w h.cell0).mono ?_
    rintro e w' ⟨rfl, rfl⟩
    exact ⟨rfl, h, Below.refl B _, Lib.OthersKept.refl _ _ _⟩

set_option maxHeartbeats 2000000 in
theorem pgeWriteByte_any (B b : Nat) (zs : List Int) (c : Int) (w : World) (h : Pge B b zs w) (hlen : zs.length + 1 ≤ 140737488355328) (hBw : B ≤ w.heap.size) :
    Calls Tryz.prog 106 #[.pointer (some ⟨b, 0, none⟩), .int .u8 c] w fun e w' => e = .returned .nilIface ∧ Pge B b (zs ++ [c]) w' ∧ Below B w w' ∧ Lib.OthersKept 5 (some b) w w' := by
  obtain ⟨i0, hi, hz0, hz1, hz2⟩ := info_parts Bld.info
  have hC := pgeCheck_any B b _ w h
  have HL : Hid ((zs.map (Value.int .u8)).length = zs.length) := List.length_map _
  clear h
  go_enter Tryz.func106, Tryz.ntmps106
  go_wp2_with fail
  refine hC.mono ?_
  rintro e w1 ⟨rfl, h1, hb1, hk1⟩
  obtain ⟨hB, v, hbk, hown, hne⟩ := h1
  have c1 : w1.cell? ⟨b, 1, none⟩ = some v := by rw [Lib.cell_of_heap hbk]; rfl
  rw [HL.out] at hown
  clear hC
  go_wp2_with (at_builtin; refine wpList_append_ownF _ rfl _ _ 157 rfl B 5 i0 (.int .u8 0) 1 1 Tryz.underlying157 hi hz0 hz1 hz2 rfl (by decide) _ _ _ rfl (hown.alloc _) ⟨w1.heap.size, 0, none⟩ 1 1 [.int .u8 c] rfl rfl ?c1 ?c2 ?c3 ?c4 ?c5 ?_)
  case c1 =>
    intro j u hj
    match j, hj with
    | 0, hj => simp at hj; subst hj; simp [Addr.add]
  case c2 => intro u hu; simp at hu; subst hu; rfl
  case c3 => unfold maxLen; omega
  case c4 => omega
  case c5 => have := hb1.size; simp; omega
  intro v' w2 hown' hgrow _
  have hlt : b < w1.heap.size := (Array.getElem?_eq_some_iff.1 hbk).1
  have hb2 : w2.heap[b]? = some (.cells #[.pointer (some ⟨b, 0, none⟩), v] 178 (0, 0)) := by
    rw [hgrow.block b (by simp; omega) (fun e => hne e.symm), Lib.alloc_old w1 _ b hlt]
    exact hbk
  have d1 : w2.cell? ⟨b, 1, none⟩ = some v := by rw [Lib.cell_of_heap hb2]; rfl
  have f1 : w2.frozen? ⟨b, 1, none⟩ = false := Lib.frozen_of_heap hb2 1
  obtain ⟨g, cap, rfl⟩ : ∃ g cap, v' = .slice (some ⟨g, 0, none⟩) (zs.length + 1) cap := by
    rcases hown'.2 with ⟨_, h0⟩ | ⟨g, cap, cur, fz, hv, _⟩
    · omega
    · exact ⟨g, cap, hv⟩
  have HP := Lib.BuilderAtF.put (T := 178) (e := 5) hB hb2 (bs' := zs.map (Value.int .u8) ++ [.int .u8 c]) (by simpa using hown') (by decide)
  have HB := ((hb1.alloc (by have := hb1.size; omega) _).grown hgrow (by have := hb1.size; simp; omega) (fun k hk => (hown.lt k hk).1)).setCell (p := ⟨b, 1, none⟩) hB (.slice (some ⟨g, 0, none⟩) (zs.length + 1) cap)
  have HO := ((hk1.alloc _).grown hgrow (Lib.ownsRowF_kind (hown.alloc _))).setCell ⟨b, 1, none⟩ rfl (.slice (some ⟨g, 0, none⟩) (zs.length + 1) cap)
  clear hown hown' hgrow hb1 hk1
  go_wp2
  go_ret
  exact ⟨rfl, by refine .inr ?_; rw [List.map_append]; exact HP, HB, HO⟩

set_option maxHeartbeats 2000000 in
theorem pgeWriteString_any (B b : Nat) (zs : List Int) (s : ByteArray) (w : World) (h : Pge B b zs w) (hlen : zs.length + s.size ≤ 140737488355328) (hBw : B ≤ w.heap.size) :
    Calls Tryz.prog 107 #[.pointer (some ⟨b, 0, none⟩), .string s] w fun e w' => e = .returned (.tuple #[.int .i64 s.size, .nilIface]) ∧ Pge B b (zs ++ strI s) w' ∧ Below B w w' ∧ Lib.OthersKept 5 (some b) w w' := by
  obtain ⟨i0, hi, hz0, hz1, hz2⟩ := info_parts Bld.info
  have hC := pgeCheck_any B b _ w h
  have HL : Hid ((zs.map (Value.int .u8)).length = zs.length) := List.length_map _
  have HS : Hid (Lib.strCells s = (strI s).map (Value.int .u8)) := by show _ = _; simp [Lib.strCells, strI]
  clear h
  go_enter Tryz.func107, Tryz.ntmps107
  go_wp2_with fail
  refine hC.mono ?_
  rintro e w1 ⟨rfl, h1, hb1, hk1⟩
  obtain ⟨hB, v, hbk, hown, hne⟩ := h1
  have c1 : w1.cell? ⟨b, 1, none⟩ = some v := by rw [Lib.cell_of_heap hbk]; rfl
  rw [HL.out] at hown
  clear hC
  go_wp2_with (at_builtin; refine Lib.wpList_append_own_stringF _ rfl _ _ 157 9 rfl B 5 i0 Tryz.underlying157 Tryz.underlying9 hi hz0 hz1 hz2 _ _ _ rfl hown s rfl ?c3 ?c4 ?c5 ?_)
  case c3 => unfold maxLen; omega
  case c4 => omega
  case c5 => have := hb1.size; omega
  intro v' w2 hown' hgrow _
  have hlt : b < w1.heap.size := (Array.getElem?_eq_some_iff.1 hbk).1
  have hb2 : w2.heap[b]? = some (.cells #[.pointer (some ⟨b, 0, none⟩), v] 178 (0, 0)) := by
    rw [hgrow.block b hlt (fun e => hne e.symm)]
    exact hbk
  have d1 : w2.cell? ⟨b, 1, none⟩ = some v := by rw [Lib.cell_of_heap hb2]; rfl
  have f1 : w2.frozen? ⟨b, 1, none⟩ = false := Lib.frozen_of_heap hb2 1
  obtain ⟨ao, n', cap, rfl⟩ : ∃ ao n' cap, v' = .slice ao n' cap := by
    rcases hown'.2 with ⟨hv, _⟩ | ⟨g, cap, cur, fz, hv, _⟩
    · exact ⟨_, _, _, hv⟩
    · exact ⟨_, _, _, hv⟩
  have HP := Lib.BuilderAtF.put (T := 178) (e := 5) hB hb2 (bs' := zs.map (Value.int .u8) ++ Lib.strCells s) (by simpa [Lib.strCells_length] using hown') (by decide)
  have HB := (hb1.grown hgrow (by have := hb1.size; omega) (fun k hk => (hown.lt k hk).1)).setCell (p := ⟨b, 1, none⟩) hB (.slice ao n' cap)
  have HO := (hk1.grown hgrow (Lib.ownsRowF_kind hown)).setCell ⟨b, 1, none⟩ rfl (.slice ao n' cap)
  rw [HS.out] at HP
  clear hown hown' hgrow hb1 hk1
  go_wp2
  go_ret2
  exact ⟨rfl, by refine .inr ?_; rw [List.map_append]; exact HP, HB, HO⟩

end Go.Proofs.YtgjedfmipllocaaGreatDoor

/-
  The layer lex as plain functions on lists of numbers: quotes, tokens, lines of tokens. No condition but what each names.
-/
namespace Go.Proofs.YtgjedfmipllocaaGreatDoor
open Go.RowKit

/-! ### quotes -/

def hexD (n : Int) : Int := if n < 10 then 48 + n else 87 + n
/-- A byte within a quoted text. -/
def escL (c : Int) : List Int := if c = 34 ∨ c = 92 then [92, c] else if printB c then [c] else [92, 120, hexD (c / 16), hexD (c % 16)]
/-- A text in quotes. -/
def quoteL (l : List Int) : List Int := 34 :: (l.flatMap escL ++ [34])

theorem hexD_within {n : Int} (h0 : 0 ≤ n) (h1 : n < 16) : 0 ≤ hexD n ∧ hexD n < 256 := by unfold hexD; split <;> omega
theorem escL_within {c : Int} (h0 : 0 ≤ c) (h1 : c < 256) : Within 256 (escL c) := by
  have a := hexD_within (n := c / 16) (by omega) (by omega)
  have b := hexD_within (n := c % 16) (by omega) (by omega)
  intro z hz
  unfold escL at hz
  split at hz
  · simp at hz; omega
  · split at hz
    · simp at hz; omega
    · simp only [List.mem_cons, List.not_mem_nil, or_false] at hz
      rcases hz with rfl | rfl | rfl | rfl <;> omega
theorem escL_len (c : Int) : (escL c).length ≤ 4 := by
  unfold escL; split
  · simp
  · split <;> simp
theorem flat_within {l : List Int} (h : Within 256 l) : Within 256 (l.flatMap escL) := by
  intro z hz
  obtain ⟨c, hc, hz⟩ := List.mem_flatMap.1 hz
  exact escL_within (h c hc).1 (h c hc).2 z hz
theorem flat_lenX (l : List Int) : (l.flatMap escL).length ≤ 4 * l.length := by
  induction l with
  | nil => simp
  | cons c l ih =>
    have := escL_len c
    simp only [List.flatMap_cons, List.length_append, List.length_cons]; omega
theorem within_appX {m : Int} {a b : List Int} (ha : Within m a) (hb : Within m b) : Within m (a ++ b) := fun z hz => by
  rcases List.mem_append.1 hz with h | h
  · exact ha z h
  · exact hb z h
theorem within_cons {m c : Int} {a : List Int} (h0 : 0 ≤ c) (h1 : c < m) (ha : Within m a) : Within m (c :: a) := fun z hz => by
  rcases List.mem_cons.1 hz with h | h
  · subst h; exact ⟨h0, h1⟩
  · exact ha z h
theorem quoteL_within {l : List Int} (h : Within 256 l) : Within 256 (quoteL l) :=
  within_cons (by omega) (by omega) (within_appX (flat_within h) (within_one (by omega) (by omega)))
theorem quoteL_len (l : List Int) : (quoteL l).length ≤ 4 * l.length + 2 := by
  have := flat_lenX l
  simp only [quoteL, List.length_cons, List.length_append, List.length_nil]; omega
theorem flat_snoc (l : List Int) (k : Nat) (h : k < l.length) : (l.take (k + 1)).flatMap escL = (l.take k).flatMap escL ++ escL (nth l k) := by
  rw [take_snoc l k h]; simp

/-! ### tokens -/

theorem kind_letter (c : Int) : (kindL c == 3) = letterB c := by
  unfold kindL
  cases letterB c
  · simp only [Bool.false_eq_true, if_false]
    repeat' split
    all_goals rfl
  · rfl
theorem kind_run (c : Int) : (kindL c == 3 || kindL c == 4) = runB c := by
  unfold kindL runB
  cases letterB c
  · cases digitB c
    · simp only [Bool.false_eq_true, if_false]
      repeat' split
      all_goals rfl
    · rfl
  · rfl
theorem kind_lo (c : Int) : 1 ≤ kindL c := by unfold kindL; repeat' split <;> omega
theorem kind_hi (c : Int) : kindL c ≤ 10 := by unfold kindL; repeat' split <;> omega

/-- A run that begins with a letter. -/
def wordB (l : List Int) : Bool := !l.isEmpty && l.all runB && letterB (nth l 0)
/-- A token's text may be, by its kind. -/
def tokOk (k : Int) (l : List Int) : Bool := if k = 1 then wordB l else if k = 2 then plainB l else if k = 3 then numB l else if k = 4 then true else if k = 5 then decide (l = [61]) else false
/-- How it stands in a line. -/
def tokS (k : Int) (l : List Int) : List Int := if k = 2 then 37 :: l else if k = 4 then quoteL l else l

theorem word_not {l : List Int} {k : Nat} (h : k < l.length) (hr : runB (nth l k) = false) : wordB l = false := by
  have e : nth l k = l[k] := by simp [nth, List.getD, h]
  cases hb : wordB l
  · rfl
  · simp only [wordB, Bool.and_eq_true, List.all_eq_true] at hb
    have := hb.1.2 _ (List.getElem_mem h)
    rw [← e, hr] at this; cases this
theorem word_all {l : List Int} (h : l ≠ []) (hr : ∀ k, k < l.length → runB (nth l k) = true) : wordB l = letterB (nth l 0) := by
  have e : l.all runB = true := by
    rw [List.all_eq_true]
    intro x hx
    obtain ⟨k, hk, rfl⟩ := List.getElem_of_mem hx
    have := hr k hk
    have e : nth l k = l[k] := by simp [nth, List.getD, hk]
    rwa [e] at this
  have e2 : l.isEmpty = false := by cases l <;> simp_all
  simp [wordB, e, e2]
theorem tokS_within {k : Int} {l : List Int} (h : Within 256 l) : Within 256 (tokS k l) := by
  unfold tokS; split
  · exact within_cons (by omega) (by omega) h
  · split
    · exact quoteL_within h
    · exact h
theorem tokS_len (k : Int) (l : List Int) : (tokS k l).length ≤ 4 * l.length + 2 := by
  have := quoteL_len l
  unfold tokS; split
  · simp; omega
  · split <;> omega

/-- A token: its kind, its text, its place. -/
abbrev TokT := Int × ByteArray × Int
def nthT (l : List TokT) (k : Nat) : TokT := l.getD k (0, ⟨#[]⟩, 0)
/-- Tokens as they are written, each with a blank ahead. -/
def wAll (l : List TokT) : List Int := l.flatMap fun t => 32 :: tokS t.1 (strI t.2.1)
def wOk (l : List TokT) : Bool := l.all fun t => tokOk t.1 (strI t.2.1)
/-- What Write answers. -/
def wOut (l : List TokT) : List Int := if wOk l then (wAll l).drop 1 else []
def wErr (l : List TokT) : Int := if wOk l then 0 else 2
/-- How many bytes the texts have together. -/
def bulkT (l : List TokT) : Nat := (l.map fun t => t.2.1.size).sum

theorem takeT_snoc (l : List TokT) (k : Nat) (h : k < l.length) : l.take (k + 1) = l.take k ++ [nthT l k] := by
  rw [List.take_succ_eq_append_getElem h]; simp [nthT, List.getD, h]
theorem wAll_snoc (l : List TokT) (k : Nat) (h : k < l.length) : wAll (l.take (k + 1)) = wAll (l.take k) ++ 32 :: tokS (nthT l k).1 (strI (nthT l k).2.1) := by
  rw [takeT_snoc l k h]; simp [wAll]
theorem wAll_drop0 (l : List TokT) (h : 0 < l.length) : (wAll (l.take 1)).drop 1 = tokS (nthT l 0).1 (strI (nthT l 0).2.1) := by
  rw [wAll_snoc l 0 h]; simp [wAll]
theorem wAll_dropS (l : List TokT) (k : Nat) (h0 : 0 < k) (h : k < l.length) : (wAll (l.take (k + 1))).drop 1 = ((wAll (l.take k)).drop 1 ++ [32]) ++ tokS (nthT l k).1 (strI (nthT l k).2.1) := by
  rw [wAll_snoc l k h]
  have hl : 1 ≤ (wAll (l.take k)).length := by
    obtain ⟨m, rfl⟩ : ∃ m, k = m + 1 := ⟨k - 1, by omega⟩
    rw [wAll_snoc l m (by omega)]; simp; omega
  rw [List.drop_append_of_le_length hl]; simp
theorem wOk_at {l : List TokT} (h : wOk l = true) {k : Nat} (hk : k < l.length) : tokOk (nthT l k).1 (strI (nthT l k).2.1) = true := by
  simp only [wOk, List.all_eq_true] at h
  have e : nthT l k = l[k] := by simp [nthT, List.getD, hk]
  rw [e]; exact h _ (List.getElem_mem hk)
theorem wOk_not {l : List TokT} {k : Nat} (hk : k < l.length) (h : tokOk (nthT l k).1 (strI (nthT l k).2.1) = false) : wOk l = false := by
  cases e : wOk l
  · rfl
  · rw [wOk_at e hk] at h; cases h
theorem wOk_all {l : List TokT} (h : ∀ k, k < l.length → tokOk (nthT l k).1 (strI (nthT l k).2.1) = true) : wOk l = true := by
  simp only [wOk, List.all_eq_true]
  intro x hx
  obtain ⟨k, hk, rfl⟩ := List.getElem_of_mem hx
  have := h k hk
  have e : nthT l k = l[k] := by simp [nthT, List.getD, hk]
  rwa [e] at this
theorem wAll_within (l : List TokT) : Within 256 (wAll l) := by
  intro z hz
  obtain ⟨t, _, hz⟩ := List.mem_flatMap.1 hz
  rcases List.mem_cons.1 hz with h | h
  · omega
  · exact tokS_within (strI_within _) z h
theorem within_dropX {m : Int} {l : List Int} (h : Within m l) (n : Nat) : Within m (l.drop n) := fun z hz => h z (List.mem_of_mem_drop hz)
theorem wAll_len (l : List TokT) : (wAll l).length ≤ 4 * bulkT l + 3 * l.length := by
  induction l with
  | nil => simp [wAll]
  | cons t l ih =>
    have := tokS_len t.1 (strI t.2.1)
    rw [strI_len] at this
    have e : wAll (t :: l) = (32 :: tokS t.1 (strI t.2.1)) ++ wAll l := rfl
    rw [e]
    have e2 : bulkT (t :: l) = t.2.1.size + bulkT l := rfl
    simp only [List.length_append, List.length_cons, e2] at *
    omega
theorem bulkT_take (l : List TokT) (k : Nat) : bulkT (l.take k) ≤ bulkT l := by
  induction l generalizing k with
  | nil => simp
  | cons t l ih =>
    cases k with
    | zero => simp [bulkT]
    | succ k =>
      have := ih k
      simp only [List.take_succ_cons, bulkT, List.map_cons, List.sum_cons] at *
      omega
theorem bulkT_at (l : List TokT) (k : Nat) (h : k < l.length) : (nthT l k).2.1.size ≤ bulkT l := by
  have h1 := bulkT_take l (k + 1)
  rw [takeT_snoc l k h] at h1
  have e : bulkT (l.take k ++ [nthT l k]) = bulkT (l.take k) + (nthT l k).2.1.size := by simp [bulkT]
  omega

/-! ### reading -/

/-- Where the run from a place ends. -/
def runE (l : List Int) (p : Nat) : Nat := p + ((l.drop p).takeWhile runB).length
/-- A piece. -/
def cutL (l : List Int) (a b : Nat) : List Int := (l.take b).drop a
/-- What stands at a place within a quoted text for one byte, and how many bytes it is. -/
def partP (l : List Int) (p : Nat) : Option (Int × Nat) :=
  if nth l p = 92 then
    if nth l (p + 1) = 34 ∨ nth l (p + 1) = 92 then some (nth l (p + 1), 2)
    else if nth l (p + 1) = 120 ∧ hexB (nth l (p + 2)) = true ∧ hexB (nth l (p + 3)) = true then some (16 * dvI (nth l (p + 2)) + dvI (nth l (p + 3)), 4)
    else none
  else if printB (nth l p) = true then some (nth l p, 1) else none
/-- A quoted text from behind its first quote on: what it stands for, and where it ends. -/
def quotF : Nat → List Int → Nat → Option (List Int × Nat)
  | 0, _, _ => none
  | f + 1, l, p => if nth l p = 34 then some ([], p + 1) else match partP l p with
    | none => none
    | some (b, n) => (quotF f l (p + n)).map fun r => (b :: r.1, r.2)
def quotP (l : List Int) (p : Nat) : Option (List Int × Nat) := quotF (l.length + 1) l p
/-- The token at a place: its kind, its text, where it ends; or what is wrong. -/
def tokP (l : List Int) (p : Nat) : Sum Int (Int × List Int × Nat) :=
  if letterB (nth l p) then .inr (1, cutL l p (runE l p), runE l p)
  else if nth l p = 37 then if plainB (cutL l (p + 1) (runE l (p + 1))) then .inr (2, cutL l (p + 1) (runE l (p + 1)), runE l (p + 1)) else .inl 62
  else if digitB (nth l p) || decide (nth l p = 45) then if numB (cutL l p (runE l (p + 1))) then .inr (3, cutL l p (runE l (p + 1)), runE l (p + 1)) else .inl 62
  else if nth l p = 34 then match quotP l (p + 1) with
    | some (b, q) => .inr (4, b, q)
    | none => .inl 61
  else if nth l p = 61 then .inr (5, [61], p + 1)
  else .inl 60
abbrev TokR := List TokT × Int × Int
/-- A token more ahead; what is wrong stays. -/
def consR (t : TokT) (r : TokR) : TokR := if r.2.1 = 0 then (t :: r.1, 0, 0) else r
def joinR (acc : List TokT) (r : TokR) : TokR := if r.2.1 = 0 then (acc ++ r.1, 0, 0) else ([], r.2.1, r.2.2)
def toksF : Nat → List Int → Nat → TokR
  | 0, _, _ => ([], 0, 0)
  | f + 1, l, p =>
    if p < l.length ∧ nth l p ≠ 59 then
      if blankB (nth l p) then toksF f l (p + 1) else match tokP l p with
        | .inl e => ([], e, (p : Int))
        | .inr (k, t, q) => consR (k, strOfNums t, (p : Int)) (toksF f l q)
    else ([], 0, 0)
/-- The tokens of a line from a place on. -/
def toksP (l : List Int) (p : Nat) : TokR := toksF (l.length + 1) l p

theorem nth_over (l : List Int) (k : Nat) (h : l.length ≤ k) : nth l k = 0 := by simp [nth, List.getD, List.getElem?_eq_none h]

theorem runE_spec {l : List Int} {p k : Nat} (hp : p ≤ k) (hk : k ≤ l.length) (h : ∀ i, p ≤ i → i < k → runB (nth l i) = true) (he : k = l.length ∨ runB (nth l k) = false) : runE l p = k := by
  have key : ∀ (n : Nat) (p : Nat), k - p = n → p ≤ k → (∀ i, p ≤ i → i < k → runB (nth l i) = true) → ((l.drop p).takeWhile runB).length = k - p := by
    intro n
    induction n with
    | zero =>
      intro p hn hp _
      obtain rfl : p = k := by omega
      rcases he with he | he
      · rw [List.drop_eq_nil_of_le (by omega)]; simp
      · by_cases hl : p < l.length
        · rw [List.drop_eq_getElem_cons hl]
          have e : nth l p = l[p] := by simp [nth, List.getD, hl]
          rw [e] at he
          rw [List.takeWhile_cons_of_neg (by simp [he])]; simp
        · rw [List.drop_eq_nil_of_le (by omega)]; simp
    | succ n ih =>
      intro p hn hp h
      have hl : p < l.length := by omega
      have e : nth l p = l[p] := by simp [nth, List.getD, hl]
      have h0 := h p (Nat.le_refl _) (by omega)
      rw [e] at h0
      rw [List.drop_eq_getElem_cons hl, List.takeWhile_cons_of_pos (by simpa using h0)]
      have := ih (p + 1) (by omega) (by omega) (fun i hi hik => h i (by omega) hik)
      simp only [List.length_cons]; omega
  have := key _ p rfl hp h
  unfold runE; omega
theorem runE_le (l : List Int) (p : Nat) (h : p ≤ l.length) : runE l p ≤ l.length := by
  have := (List.takeWhile_sublist (p := runB) (l := l.drop p)).length_le
  rw [List.length_drop] at this
  unfold runE; omega
theorem runE_ge (l : List Int) (p : Nat) : p ≤ runE l p := by unfold runE; omega
theorem runE_gt {l : List Int} {p : Nat} (h : p < l.length) (hr : runB (nth l p) = true) : p + 1 ≤ runE l p := by
  have e : nth l p = l[p] := by simp [nth, List.getD, h]
  rw [e] at hr
  unfold runE
  rw [List.drop_eq_getElem_cons h, List.takeWhile_cons_of_pos (by simpa using hr)]
  simp

theorem partP_some {l : List Int} {p n : Nat} {b : Int} (h : partP l p = some (b, n)) : 1 ≤ n ∧ p + n ≤ l.length := by
  have hlt : ∀ k, nth l k ≠ 0 → k < l.length := fun k hk => by
    rcases Nat.lt_or_ge k l.length with h' | h'
    · exact h'
    · exact absurd (nth_over l k h') hk
  have hhex : hexB 0 = false := by decide
  unfold partP at h
  split at h
  · split at h
    · rename_i h1
      have := hlt (p + 1) (by omega)
      simp at h; omega
    · split at h
      · rename_i h1
        have := hlt (p + 3) (fun e => by rw [e, hhex] at h1; exact absurd h1.2.2 (by decide))
        simp at h; omega
      · cases h
  · split at h
    · rename_i h1
      have := hlt p (fun e => by rw [e] at h1; exact absurd h1 (by decide))
      simp at h; omega
    · cases h
theorem quotF_succ (f : Nat) (l : List Int) (p : Nat) : quotF (f + 1) l p = if nth l p = 34 then some ([], p + 1) else match partP l p with
    | none => none
    | some (b, n) => (quotF f l (p + n)).map fun r => (b :: r.1, r.2) := rfl
theorem toksF_succ (f : Nat) (l : List Int) (p : Nat) : toksF (f + 1) l p = if p < l.length ∧ nth l p ≠ 59 then
      if blankB (nth l p) then toksF f l (p + 1) else match tokP l p with
        | .inl e => ([], e, (p : Int))
        | .inr (k, t, q) => consR (k, strOfNums t, (p : Int)) (toksF f l q)
    else ([], 0, 0) := rfl
theorem quotF_fuel (l : List Int) : ∀ (f g p : Nat), l.length - p < f → l.length - p < g → quotF f l p = quotF g l p := by
  intro f
  induction f with
  | zero => intro g p h; omega
  | succ f ih =>
    intro g p hf hg
    match g, hg with
    | g + 1, hg =>
      unfold quotF
      split
      · rfl
      · cases e : partP l p with
        | none => rfl
        | some bn =>
          obtain ⟨b, n⟩ := bn
          have := partP_some e
          simp only
          rw [ih g (p + n) (by omega) (by omega)]
theorem quotP_close {l : List Int} {p : Nat} (h : nth l p = 34) : quotP l p = some ([], p + 1) := by
  unfold quotP quotF; rw [if_pos h]
theorem quotP_none {l : List Int} {p : Nat} (h : nth l p ≠ 34) (h1 : partP l p = none) : quotP l p = none := by
  unfold quotP quotF; rw [if_neg h, h1]
theorem quotP_some {l : List Int} {p n : Nat} {b : Int} (h : nth l p ≠ 34) (h1 : partP l p = some (b, n)) : quotP l p = (quotP l (p + n)).map fun r => (b :: r.1, r.2) := by
  have := partP_some h1
  have e : quotP l p = (quotF l.length l (p + n)).map fun r => (b :: r.1, r.2) := by
    show quotF (l.length + 1) l p = _
    rw [quotF_succ, if_neg h, h1]
  rw [e, quotF_fuel l l.length (l.length + 1) (p + n) (by omega) (by omega)]
  rfl
theorem quotP_end {l : List Int} : ∀ {p q : Nat} {b : List Int}, quotP l p = some (b, q) → p + 1 ≤ q ∧ q ≤ l.length := by
  have key : ∀ (f p q : Nat) (b : List Int), quotF f l p = some (b, q) → p + 1 ≤ q ∧ q ≤ l.length := by
    intro f
    induction f with
    | zero => intro p q b h; cases h
    | succ f ih =>
      intro p q b h
      unfold quotF at h
      split at h
      · rename_i h1
        have : p < l.length := by
          rcases Nat.lt_or_ge p l.length with h' | h'
          · exact h'
          · rw [nth_over l p h'] at h1; omega
        simp at h; omega
      · cases e : partP l p with
        | none => rw [e] at h; cases h
        | some bn =>
          obtain ⟨b', n⟩ := bn
          rw [e] at h
          simp only [Option.map_eq_some_iff] at h
          obtain ⟨⟨bs, q'⟩, h1, h2⟩ := h
          have := ih _ _ _ h1
          simp at h2; omega
  intro p q b h
  exact key _ p q b h

theorem tokP_end {l : List Int} {p q : Nat} {k : Int} {t : List Int} (hp : p < l.length) (h : tokP l p = .inr (k, t, q)) : p + 1 ≤ q ∧ q ≤ l.length := by
  unfold tokP at h
  split at h
  · rename_i h1
    have := runE_gt hp (by simp [runB, h1])
    have := runE_le l p (by omega)
    simp at h; omega
  · have a := runE_ge l (p + 1)
    have b := runE_le l (p + 1) (by omega)
    split at h
    · split at h
      · simp at h; omega
      · cases h
    · split at h
      · split at h
        · simp at h; omega
        · cases h
      · split at h
        · split at h
          · rename_i e
            have := quotP_end e
            simp at h; omega
          · cases h
        · split at h
          · simp at h; omega
          · cases h
theorem toksF_fuel (l : List Int) : ∀ (f g p : Nat), l.length - p < f → l.length - p < g → toksF f l p = toksF g l p := by
  intro f
  induction f with
  | zero => intro g p h; omega
  | succ f ih =>
    intro g p hf hg
    match g, hg with
    | g + 1, hg =>
      unfold toksF
      split
      · rename_i h1
        split
        · rw [ih g (p + 1) (by omega) (by omega)]
        · cases e : tokP l p with
          | inl _ => rfl
          | inr r =>
            obtain ⟨k, t, q⟩ := r
            have := tokP_end h1.1 e
            simp only
            rw [ih g q (by omega) (by omega)]
      · rfl
theorem toksP_end {l : List Int} {p : Nat} (h : ¬ (p < l.length ∧ nth l p ≠ 59)) : toksP l p = ([], 0, 0) := by
  unfold toksP toksF; rw [if_neg h]
theorem toksP_blank {l : List Int} {p : Nat} (h : p < l.length) (h1 : blankB (nth l p) = true) : toksP l p = toksP l (p + 1) := by
  have h2 : nth l p ≠ 59 := fun e => by rw [e] at h1; exact absurd h1 (by decide)
  have e : toksP l p = toksF l.length l (p + 1) := by
    show toksF (l.length + 1) l p = _
    rw [toksF_succ, if_pos ⟨h, h2⟩, if_pos h1]
  rw [e, toksF_fuel l l.length (l.length + 1) (p + 1) (by omega) (by omega)]
  rfl
theorem toksP_err {l : List Int} {p : Nat} {e : Int} (h : p < l.length) (h2 : nth l p ≠ 59) (h1 : blankB (nth l p) = false) (ht : tokP l p = .inl e) : toksP l p = ([], e, (p : Int)) := by
  unfold toksP toksF; rw [if_pos ⟨h, h2⟩, if_neg (by simp [h1]), ht]
theorem toksP_tok {l : List Int} {p q : Nat} {k : Int} {t : List Int} (h : p < l.length) (h2 : nth l p ≠ 59) (h1 : blankB (nth l p) = false) (ht : tokP l p = .inr (k, t, q)) : toksP l p = consR (k, strOfNums t, (p : Int)) (toksP l q) := by
  have hq := tokP_end h ht
  have e : toksP l p = consR (k, strOfNums t, (p : Int)) (toksF l.length l q) := by
    show toksF (l.length + 1) l p = _
    rw [toksF_succ, if_pos ⟨h, h2⟩, if_neg (by simp [h1]), ht]
  rw [e, toksF_fuel l l.length (l.length + 1) q (by omega) (by omega)]
  rfl
theorem join_cons (acc : List TokT) (t : TokT) (r : TokR) : joinR acc (consR t r) = joinR (acc ++ [t]) r := by
  unfold joinR consR
  by_cases h : r.2.1 = 0
  · simp [h]
  · simp [h]
theorem toksP_shape (l : List Int) (p : Nat) : ((toksP l p).2.1 = 0 → (toksP l p).2.2 = 0) ∧ ((toksP l p).2.1 ≠ 0 → (toksP l p).1 = []) := by
  have key : ∀ f p, ((toksF f l p).2.1 = 0 → (toksF f l p).2.2 = 0) ∧ ((toksF f l p).2.1 ≠ 0 → (toksF f l p).1 = []) := by
    intro f
    induction f with
    | zero => intro p; simp [toksF]
    | succ f ih =>
      intro p
      unfold toksF
      split
      · split
        · exact ih _
        · split
          · rename_i e he
            have hne : e ≠ 0 := by
              intro h0; subst h0
              unfold tokP at he
              repeat' (split at he)
              all_goals simp at he
            simp [hne]
          · rename_i k t q he
            have := ih q
            unfold consR; split
            · simp
            · exact this
      · simp
  exact key _ p
theorem join_nil (l : List Int) (p : Nat) : joinR [] (toksP l p) = toksP l p := by
  have h := toksP_shape l p
  unfold joinR
  split
  · rename_i e
    rcases hr : toksP l p with ⟨a, b, c⟩
    rw [hr] at h e
    simp only at h e
    simp [e, h.1 e]
  · rename_i e
    rcases hr : toksP l p with ⟨a, b, c⟩
    rw [hr] at h e
    simp only at h e
    simp [h.2 e]

end Go.Proofs.YtgjedfmipllocaaGreatDoor

/-
  The layer lex there and back: tokens that are written are read, each at its place; a line moved to the right; a note behind a line. No condition but what each names.
-/
namespace Go.Proofs.YtgjedfmipllocaaGreatDoor
open Go.RowKit

/-! ### moved to the right -/

theorem nth_shift (pre l : List Int) (p : Nat) : nth (pre ++ l) (pre.length + p) = nth l p := by
  rw [getD_right _ _ _ (by omega)]; congr 1; omega
theorem drop_shift (pre l : List Int) (p : Nat) : (pre ++ l).drop (pre.length + p) = l.drop p := by
  rw [List.drop_append, List.drop_eq_nil_of_le (by omega)]; simp
theorem runE_shift (pre l : List Int) (p : Nat) : runE (pre ++ l) (pre.length + p) = pre.length + runE l p := by
  unfold runE; rw [drop_shift]; omega
theorem cut_shift (pre l : List Int) (a b : Nat) : cutL (pre ++ l) (pre.length + a) (pre.length + b) = cutL l a b := by
  unfold cutL
  rw [List.take_append, List.take_of_length_le (l := pre) (by omega), show pre.length + b - pre.length = b by omega, drop_shift]
theorem part_shift (pre l : List Int) (p : Nat) : partP (pre ++ l) (pre.length + p) = partP l p := by
  unfold partP
  rw [nth_shift, show pre.length + p + 1 = pre.length + (p + 1) by omega, show pre.length + p + 2 = pre.length + (p + 2) by omega, show pre.length + p + 3 = pre.length + (p + 3) by omega, nth_shift, nth_shift, nth_shift]
theorem quotF_shift (pre l : List Int) : ∀ f p, quotF f (pre ++ l) (pre.length + p) = (quotF f l p).map fun r => (r.1, pre.length + r.2) := by
  intro f
  induction f with
  | zero => intro p; rfl
  | succ f ih =>
    intro p
    rw [quotF_succ, quotF_succ, nth_shift, part_shift]
    split
    · simp; omega
    · cases e : partP l p with
      | none => rfl
      | some bn =>
        obtain ⟨b, n⟩ := bn
        simp only
        rw [show pre.length + p + n = pre.length + (p + n) by omega, ih]
        simp [Option.map_map, Function.comp_def]
theorem quot_shift (pre l : List Int) (p : Nat) : quotP (pre ++ l) (pre.length + p) = (quotP l p).map fun r => (r.1, pre.length + r.2) := by
  unfold quotP
  rw [quotF_shift, quotF_fuel l ((pre ++ l).length + 1) (l.length + 1) p (by simp; omega) (by omega)]
def shiftT (k : Nat) : Sum Int (Int × List Int × Nat) → Sum Int (Int × List Int × Nat)
  | .inl e => .inl e
  | .inr (a, t, q) => .inr (a, t, k + q)
theorem tok_shift (pre l : List Int) (p : Nat) : tokP (pre ++ l) (pre.length + p) = shiftT pre.length (tokP l p) := by
  unfold tokP
  rw [nth_shift, runE_shift, show pre.length + p + 1 = pre.length + (p + 1) by omega, runE_shift, cut_shift, cut_shift, cut_shift, quot_shift]
  split
  · rfl
  · split
    · split <;> rfl
    · split
      · split <;> rfl
      · split
        · cases quotP l (p + 1) with
          | none => rfl
          | some r => rfl
        · split
          · simp [shiftT]
          · rfl
def moveT (k : Nat) (t : TokT) : TokT := (t.1, t.2.1, t.2.2 + k)
def shiftR (k : Nat) (r : TokR) : TokR := (r.1.map (moveT k), r.2.1, if r.2.1 = 0 then r.2.2 else r.2.2 + k)
theorem shift_cons (k : Nat) (t : TokT) (r : TokR) : consR (moveT k t) (shiftR k r) = shiftR k (consR t r) := by
  unfold consR shiftR
  by_cases h : r.2.1 = 0 <;> simp [h]
theorem toksF_shift (pre l : List Int) : ∀ f p, toksF f (pre ++ l) (pre.length + p) = shiftR pre.length (toksF f l p) := by
  intro f
  induction f with
  | zero => intro p; rfl
  | succ f ih =>
    intro p
    rw [toksF_succ, toksF_succ, nth_shift, tok_shift]
    have hlt : (pre.length + p < (pre ++ l).length ∧ nth l p ≠ 59) ↔ (p < l.length ∧ nth l p ≠ 59) := by rw [List.length_append]; omega
    by_cases hc : p < l.length ∧ nth l p ≠ 59
    · rw [if_pos hc, if_pos (hlt.2 hc)]
      split
      · rw [show pre.length + p + 1 = pre.length + (p + 1) by omega]; exact ih _
      · cases e : tokP l p with
        | inl er =>
          have hne : er ≠ 0 := by
            intro h0; subst h0
            unfold tokP at e
            repeat' (split at e)
            all_goals simp at e
          simp [shiftT, shiftR, hne]; omega
        | inr r =>
          obtain ⟨k, t, q⟩ := r
          simp only [shiftT]
          rw [ih, ← shift_cons]
          congr 1
          simp [moveT]; omega
    · rw [if_neg hc, if_neg (fun h => hc (hlt.1 h))]; rfl
theorem toks_shift (pre l : List Int) (p : Nat) : toksP (pre ++ l) (pre.length + p) = shiftR pre.length (toksP l p) := by
  unfold toksP
  rw [toksF_shift, toksF_fuel l ((pre ++ l).length + 1) (l.length + 1) p (by simp; omega) (by omega)]
/-- Blanks ahead. -/
theorem toks_blanks (n : Nat) (l : List Int) : toksP (List.replicate n 32 ++ l) 0 = shiftR n (toksP l 0) := by
  have key : ∀ k, k ≤ n → toksP (List.replicate n 32 ++ l) 0 = toksP (List.replicate n 32 ++ l) k := by
    intro k
    induction k with
    | zero => intro _; rfl
    | succ k ih =>
      intro hk
      rw [ih (by omega)]
      refine toksP_blank (by simp; omega) ?_
      rw [getD_left _ _ _ (by simp; omega)]
      have : nth (List.replicate n (32 : Int)) k = 32 := by simp [nth, List.getD, show k < n by omega]
      rw [this]; rfl
  have h := toks_shift (List.replicate n 32) l 0
  rw [List.length_replicate, Nat.add_zero] at h
  rw [key n (Nat.le_refl _), h]

/-! ### one token -/

theorem cut_front (t rest : List Int) : cutL (t ++ rest) 0 t.length = t := by simp [cutL]
theorem all_nth {P : Int → Bool} {l : List Int} (h : l.all P = true) {k : Nat} (hk : k < l.length) : P (nth l k) = true := by
  rw [List.all_eq_true] at h
  have e : nth l k = l[k] := by simp [nth, List.getD, hk]
  rw [e]; exact h _ (List.getElem_mem hk)
theorem digit_run {c : Int} (h : digitB c = true) : runB c = true := by simp [runB, h]
theorem plain_all {t : List Int} (h : plainB t = true) : t ≠ [] ∧ ∀ k, k < t.length → digitB (nth t k) = true := by
  simp only [plainB, digsB, Bool.and_eq_true, Bool.not_eq_true', List.isEmpty_eq_false_iff] at h
  exact ⟨h.2.1.1, fun k hk => (dv_digit _).1 (allD_at h.2.1.2 hk)⟩
theorem hex_run {c : Int} (h : hexB c = true) : runB c = true := by
  simp only [hexB, digitB, Bool.or_eq_true, decide_eq_true_eq] at h
  simp only [runB, letterB, digitB, Bool.or_eq_true, decide_eq_true_eq, beq_iff_eq]
  omega
theorem nth_dropX (l : List Int) (a k : Nat) : nth (l.drop a) k = nth l (a + k) := by unfold nth; simp [List.getD, List.getElem?_drop]
/-- A number's text: a digit or a minus first, then a run. -/
theorem num_shape {t : List Int} (h : numB t = true) : 0 < t.length ∧ (digitB (nth t 0) = true ∨ nth t 0 = 45) ∧ ∀ k, 1 ≤ k → k < t.length → runB (nth t k) = true := by
  unfold numB at h
  split at h
  · rename_i e
    have hl : 0 < t.length := by
      have := congrArg List.length e
      rw [List.length_take] at this; simp at this; omega
    have h0 : nth t 0 = 45 := by
      cases t with
      | nil => simp at hl
      | cons a r => simp at e; simp [nth, e]
    simp only [Bool.and_eq_true] at h
    have hp := plain_all h.1
    refine ⟨hl, .inr h0, fun k h1 hk => ?_⟩
    have := hp.2 (k - 1) (by rw [List.length_drop]; omega)
    rw [nth_dropX, show 1 + (k - 1) = k by omega] at this
    exact digit_run this
  · split at h
    · rename_i e
      have hl : 1 < t.length := by
        have := congrArg List.length e
        rw [List.length_take] at this; simp at this; omega
      have h0 : nth t 0 = 48 ∧ nth t 1 = 120 := by
        match t, hl with
        | [a], hl => simp at hl
        | a :: b :: r, _ => simp at e; simp [nth, e]
      simp only [digsB, Bool.and_eq_true] at h
      refine ⟨by omega, .inl (by rw [h0.1]; decide), fun k h1 hk => ?_⟩
      by_cases e1 : k = 1
      · subst e1; rw [h0.2]; decide
      · have := allD_at h.1.1.2 (k := k - 2) (by rw [List.length_drop]; omega)
        rw [nth_dropX, show 2 + (k - 2) = k by omega] at this
        exact hex_run ((dv_hex _).1 this)
    · have hp := plain_all h
      have hl : 0 < t.length := by
        cases t with
        | nil => exact absurd rfl hp.1
        | cons a r => simp
      exact ⟨hl, .inl (hp.2 0 hl), fun k _ hk => digit_run (hp.2 k hk)⟩

/-- What a written byte stands for. -/
theorem part_esc_any (c : Int) (rest : List Int) (h0 : 0 ≤ c) (h1 : c < 256) : nth (escL c ++ rest) 0 ≠ 34 ∧ partP (escL c ++ rest) 0 = some (c, (escL c).length) := by
  unfold escL
  split
  · rename_i h
    refine ⟨by simp [nth], ?_⟩
    unfold partP
    have e0 : nth ([92, c] ++ rest) 0 = 92 := by simp [nth]
    have e1 : nth ([92, c] ++ rest) (0 + 1) = c := by simp [nth]
    rw [e0, e1, if_pos rfl, if_pos h]; rfl
  · rename_i h
    split
    · rename_i hp
      have e0 : nth ([c] ++ rest) 0 = c := by simp [nth]
      refine ⟨by rw [e0]; omega, ?_⟩
      unfold partP
      rw [e0, if_neg (by omega), if_pos hp]; rfl
    · rename_i hp
      have d : ∀ n : Int, 0 ≤ n → n < 16 → hexB (hexD n) = true ∧ dvI (hexD n) = n := by
        intro n a b
        have : ∀ m : Fin 16, hexB (hexD (m.val : Int)) = true ∧ dvI (hexD (m.val : Int)) = (m.val : Int) := by decide
        obtain ⟨m, rfl⟩ := Int.eq_ofNat_of_zero_le a
        exact this ⟨m, by omega⟩
      obtain ⟨a1, a2⟩ := d (c / 16) (by omega) (by omega)
      obtain ⟨b1, b2⟩ := d (c % 16) (by omega) (by omega)
      have e0 : nth ([92, 120, hexD (c / 16), hexD (c % 16)] ++ rest) 0 = 92 := by simp [nth]
      have e1 : nth ([92, 120, hexD (c / 16), hexD (c % 16)] ++ rest) (0 + 1) = 120 := by simp [nth]
      have e2 : nth ([92, 120, hexD (c / 16), hexD (c % 16)] ++ rest) (0 + 2) = hexD (c / 16) := by simp [nth]
      have e3 : nth ([92, 120, hexD (c / 16), hexD (c % 16)] ++ rest) (0 + 3) = hexD (c % 16) := by simp [nth]
      refine ⟨by rw [e0]; omega, ?_⟩
      unfold partP
      rw [e0, e1, e2, e3, if_pos rfl, if_neg (by omega), if_pos ⟨rfl, a1, b1⟩, a2, b2]
      congr 1
      simp only [List.length_cons, List.length_nil]
      rw [show 16 * (c / 16) + c % 16 = c by omega]
/-- A text in quotes is read as it was, whatever stands behind. -/
theorem quot_flat (t rest : List Int) (h : Within 256 t) : quotP (t.flatMap escL ++ 34 :: rest) 0 = some (t, (t.flatMap escL).length + 1) := by
  induction t with
  | nil => exact quotP_close (by simp [nth])
  | cons c t ih =>
    have hc := h c (by simp)
    have e : (c :: t).flatMap escL ++ 34 :: rest = escL c ++ (t.flatMap escL ++ 34 :: rest) := by simp
    obtain ⟨p1, p2⟩ := part_esc_any c (t.flatMap escL ++ 34 :: rest) hc.1 hc.2
    rw [e, quotP_some p1 p2]
    have hs := quot_shift (escL c) (t.flatMap escL ++ 34 :: rest) 0
    rw [Nat.add_zero] at hs
    rw [Nat.zero_add, hs, ih (fun z hz => h z (by simp [hz]))]
    simp; omega

theorem tokS_pos {k : Int} {t : List Int} (h : tokOk k t = true) : 0 < (tokS k t).length := by
  unfold tokOk at h
  unfold tokS
  split at h
  · rename_i e; subst e
    simp only [wordB, Bool.and_eq_true, Bool.not_eq_true', List.isEmpty_eq_false_iff] at h
    simp; exact List.length_pos_iff.2 h.1.1
  · split at h
    · rename_i e; subst e; simp
    · split at h
      · rename_i e; subst e
        have := (num_shape h).1
        simpa using this
      · split at h
        · rename_i e; subst e; simp [quoteL]
        · split at h
          · rename_i e; subst e
            have := of_decide_eq_true h
            subst this; simp
          · cases h
/-- A token as it is written is read as it was, where no run goes on behind it. -/
theorem tok_read {k : Int} {t rest : List Int} (h : tokOk k t = true) (hw : Within 256 t) (hr : runB (nth rest 0) = false) :
    tokP (tokS k t ++ rest) 0 = .inr (k, t, (tokS k t).length) ∧ blankB (nth (tokS k t ++ rest) 0) = false ∧ nth (tokS k t ++ rest) 0 ≠ 59 := by
  have hstop : ∀ u : List Int, u.length = (u ++ rest).length ∨ runB (nth (u ++ rest) u.length) = false := fun u => .inr (by rw [getD_right _ _ _ (Nat.le_refl _), Nat.sub_self]; exact hr)
  have hpos := tokS_pos h
  unfold tokOk at h
  split at h
  · rename_i e; subst e
    have es : tokS 1 t = t := rfl
    rw [es] at hpos ⊢
    have h' := h
    simp only [wordB, Bool.and_eq_true] at h
    have h0 : nth (t ++ rest) 0 = nth t 0 := getD_left _ _ _ hpos
    have hE : runE (t ++ rest) 0 = t.length := runE_spec (by omega) (by simp) (fun i _ hi => by rw [getD_left _ _ _ hi]; exact all_nth h.1.2 hi) (hstop t)
    refine ⟨?_, ?_, ?_⟩
    · unfold tokP; rw [h0, if_pos h.2, hE, cut_front]
    · rw [h0]
      cases e : blankB (nth t 0)
      · rfl
      · have hl := h.2
        simp only [blankB, Bool.or_eq_true, beq_iff_eq] at e
        rcases e with (e | e) | e <;> (rw [e] at hl; exact absurd hl (by decide))
    · rw [h0]; intro e; have hl := h.2; rw [e] at hl; exact absurd hl (by decide)
  · split at h
    · rename_i e; subst e
      have es : tokS 2 t = 37 :: t := rfl
      rw [es]
      have hp := plain_all h
      have h0 : nth (37 :: t ++ rest) 0 = 37 := by simp [nth]
      have hE : runE (37 :: t ++ rest) 1 = 1 + t.length := by
        have := runE_shift [37] (t ++ rest) 0
        have h2 : runE (t ++ rest) 0 = t.length := runE_spec (by omega) (by simp) (fun i _ hi => by rw [getD_left _ _ _ hi]; exact digit_run (hp.2 i hi)) (hstop t)
        rw [h2] at this
        simpa using this
      have hC : cutL (37 :: t ++ rest) 1 (1 + t.length) = t := by
        have := cut_shift [37] (t ++ rest) 0 t.length
        rw [cut_front] at this
        simpa using this
      refine ⟨?_, by rw [h0]; rfl, by rw [h0]; decide⟩
      unfold tokP
      rw [h0, if_neg (by decide), if_pos rfl, Nat.zero_add, hE, hC, if_pos h]
      simp; omega
    · split at h
      · rename_i e; subst e
        have es : tokS 3 t = t := rfl
        rw [es] at hpos ⊢
        obtain ⟨_, s1, s2⟩ := num_shape h
        have h0 : nth (t ++ rest) 0 = nth t 0 := getD_left _ _ _ hpos
        have hE : runE (t ++ rest) 1 = t.length := runE_spec (by omega) (by simp) (fun i h1 hi => by rw [getD_left _ _ _ hi]; exact s2 i h1 hi) (hstop t)
        have hn : letterB (nth t 0) = false ∧ nth t 0 ≠ 37 ∧ nth t 0 ≠ 59 ∧ blankB (nth t 0) = false ∧ (digitB (nth t 0) || decide (nth t 0 = 45)) = true := by
          rcases s1 with s1 | s1
          · have s1' := s1
            simp only [digitB, decide_eq_true_eq] at s1
            refine ⟨?_, by omega, by omega, ?_, by simp [s1']⟩
            · simp [letterB]; omega
            · simp [blankB]; omega
          · rw [s1]; decide
        refine ⟨?_, by rw [h0]; exact hn.2.2.2.1, by rw [h0]; exact hn.2.2.1⟩
        unfold tokP
        rw [h0, if_neg (by simp [hn.1]), if_neg hn.2.1, if_pos hn.2.2.2.2, Nat.zero_add, hE, cut_front, if_pos h]
      · split at h
        · rename_i e; subst e
          have es : tokS 4 t ++ rest = [34] ++ (t.flatMap escL ++ 34 :: rest) := by simp [tokS, quoteL]
          have el : (tokS 4 t).length = (t.flatMap escL).length + 2 := by simp [tokS, quoteL]
          rw [es, el]
          have h0 : nth ([34] ++ (t.flatMap escL ++ 34 :: rest)) 0 = 34 := by simp [nth]
          have hq := quot_shift [34] (t.flatMap escL ++ 34 :: rest) 0
          rw [quot_flat t rest hw] at hq
          simp only [List.length_singleton, Nat.add_zero, Option.map_some] at hq
          refine ⟨?_, by rw [h0]; rfl, by rw [h0]; decide⟩
          unfold tokP
          rw [h0, if_neg (by decide), if_neg (by decide), if_neg (by decide), if_pos rfl, Nat.zero_add, hq]
          simp; omega
        · split at h
          · rename_i e; subst e
            have := of_decide_eq_true h
            subst this
            have es : tokS 5 [61] = [61] := rfl
            rw [es]
            have h0 : nth ([61] ++ rest) 0 = 61 := by simp [nth]
            refine ⟨?_, by rw [h0]; rfl, by rw [h0]; decide⟩
            unfold tokP
            rw [h0, if_neg (by decide), if_neg (by decide), if_neg (by decide), if_neg (by decide), if_pos rfl]; rfl
          · cases h

/-! ### a line of tokens -/

end Go.Proofs.YtgjedfmipllocaaGreatDoor
