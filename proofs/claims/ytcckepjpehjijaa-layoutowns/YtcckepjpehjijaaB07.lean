/-
  Texts laid together in one: CodeIds, MathU, MathV, MathW, MathJ, LayoutKindO, LayoutKindA, LayoutKindB, LayoutKindC, LayoutKindD, LayoutKindE, LayoutKindF, LayoutKindOf, Slots, KitInst, KitModule, LayoutWalk0, LayoutEnds.
-/
import Derived.WalkSpells
import Derived.WalkMore
import Derived.Laws.AppendOwn
import Derived.Test.YtcckepjpehjijaaB01
import Derived.Test.YtcckepjpehjijaaB06
import Derived.KernelRfl
import Derived.Test.YtcckepjpehjijaaProg
import Derived.WalkKit
import Derived.Deep.QuietTactic
import Derived.BigQuiet
import Derived.BigRegion
import Derived.Deep.RegionWith
import Derived.Deep.DrawnRows
import Derived.Test.YtcckepjpehjijaaB03
/-
  What Ids of the package code answers, for every instruction.
-/
namespace Go.Proofs.Ytcckepjpehjijaa
open Go.RowKit
set_option linter.unusedVariables false
set_option linter.unusedSimpArgs false
set_option maxRecDepth 10000

def idsA (x : ArgT) : List Int := if x.1 = 1 then [x.2.1] else []
/-- The ids that an instruction names, up to an argument. -/
def idsTo (t : Int) (l : List ArgT) (k : Nat) : List Int := (if t = 0 then [] else [t]) ++ (l.take k).flatMap idsA
def idsI (x : InstT) : List Int := idsTo x.2.1 x.2.2.2 x.2.2.2.length

theorem idsTo_zero (t : Int) (l : List ArgT) : idsTo t l 0 = if t = 0 then [] else [t] := by simp [idsTo]
theorem idsTo_succ (t : Int) (l : List ArgT) (k : Nat) (h : k < l.length) : idsTo t l (k + 1) = idsTo t l k ++ idsA (nthA l k) := by
  unfold idsTo
  rw [List.take_add_one, List.getElem?_eq_getElem h, nthA_lt _ _ h, Option.toList_some, List.flatMap_append]
  simp [List.append_assoc]
theorem idsTo_len (t : Int) (l : List ArgT) (k : Nat) : (idsTo t l k).length ≤ 1 + k := by
  unfold idsTo
  have h1 : ((l.take k).flatMap idsA).length ≤ (l.take k).length := by
    generalize l.take k = m
    induction m with
    | nil => simp
    | cons x m ih =>
      rw [List.flatMap_cons, List.length_append, List.length_cons]
      have : (idsA x).length ≤ 1 := by unfold idsA; split <;> simp
      omega
  have h2 : (l.take k).length ≤ k := by rw [List.length_take]; omega
  rw [List.length_append]
  have h3 : (if t = 0 then [] else [t] : List Int).length ≤ 1 := by split <;> simp
  omega

theorem Ids.info : (Try.prog.info? 22).map (fun i => (i.zero, i.size, i.bytes)) = some (some (.int .u32 0), 1, 4) := by kernel_rfl

/-- A row of words while it is built, behind a box. -/
structure IdsS (w wr : World) (xo xt xr : Int) (ax : Option Addr) (n cx : Nat) (v : Value) (zs : List Int) : Prop where
  own : wr.ownsRow (w.heap.size + 1) 22 1 v zs.length (zs.map (Value.int .u32))
  box : wr.heap[w.heap.size]? = some (.cells #[.int .u16 xo, .int .u32 xt, .int .u32 xr, .slice ax n cx] 58 (0, 0))
  bel : Below w.heap.size w wr

theorem IdsS.below {w wr wr' : World} {xo xt xr : Int} {ax : Option Addr} {n cx : Nat} {v : Value} {zs : List Int} (h : IdsS w wr xo xt xr ax n cx v zs) (hb : Below wr.heap.size wr wr') : IdsS w wr' xo xt xr ax n cx v zs :=
  ⟨own_below h.own hb, (hb.block _ (Array.getElem?_eq_some_iff.1 h.box).1).trans h.box, h.bel.trans (hb.mono h.bel.size)⟩
/-- Behind an append of one word that lies in a new block. -/
theorem IdsS.push {w wr w5 : World} {xo xt xr : Int} {ax : Option Addr} {n cx : Nat} {v v' : Value} {zs : List Int} {y : Int} (h : IdsS w wr xo xt xr ax n cx v zs) (hg : wr.grownBy w5 v.ownBlock) (hown : w5.ownsRow (w.heap.size + 1) 22 1 v' (zs.length + 1) (zs.map (Value.int .u32) ++ [.int .u32 y])) : IdsS w w5 xo xt xr ax n cx v' (zs ++ [y]) := by
  have hlo : ∀ g, v.ownBlock = some g → w.heap.size + 1 ≤ g := fun g e => (h.own.lt g e).1
  refine ⟨?_, ?_, ?_⟩
  · rw [List.length_append, List.map_append]; exact hown
  · exact (hg.block _ (Array.getElem?_eq_some_iff.1 h.box).1 (fun e => by have := hlo _ e.symm; omega)).trans h.box
  · exact h.bel.grown hg h.bel.size (fun k e => by have := hlo k e; omega)

end Go.Proofs.Ytcckepjpehjijaa

/-
  Plain facts on who makes an id and who names it.
-/
namespace Go.Proofs.Ytcckepjpehjijaa
open Go.RowKit
set_option linter.unusedVariables false

/-- The places, up to one, of the instructions that name an id. -/
def usesTo (l : List InstT) (id : Int) : Nat → List Int
  | 0 => []
  | k + 1 => usesTo l id k ++ (if id ∈ idsI (nthI l k) then [(k : Int)] else [])
theorem usesTo_len (l : List InstT) (id : Int) : ∀ k, (usesTo l id k).length ≤ k
  | 0 => by simp [usesTo]
  | k + 1 => by
    have := usesTo_len l id k
    rw [usesTo, List.length_append]
    split <;> simp <;> omega
/-- What Uses answers. -/
def usesL (b : Int) (l : List InstT) (id : Int) : List Int := if (shapeE b l).1 = 0 then usesTo l id l.length else []

/-- Does an instruction name an id by a text? -/
def namesX (x : InstT) (id : Int) : Bool := decide (x.1 = 5) && decide ((nthA x.2.2.2 0).2.1 = id)
/-- The first of them, from a place on. -/
def nameF (l : List InstT) (id : Int) : Nat → Nat → ByteArray × Bool
  | 0, _ => (⟨#[]⟩, false)
  | f + 1, k => if namesX (nthI l k) id = true then ((nthA (nthI l k).2.2.2 1).2.2, true) else nameF l id f (k + 1)
/-- What Name answers. -/
def nameL (b : Int) (l : List InstT) (id : Int) : ByteArray × Bool := if (shapeE b l).1 = 0 then nameF l id l.length 0 else (⟨#[]⟩, false)
/-- An instruction that gives a name has two arguments. -/
theorem name_args {x : InstT} {b : Int} (h : rawE x b = 0) (h5 : x.1 = 5) : x.2.2.2.length = 2 := by
  obtain ⟨h1, h2, _⟩ := rawWs_ok h
  have h4 := (faultI_zero h2).2.2.2.1
  rw [h5] at h4
  have e1 : (lookF refT 5).1.2.2.2.1.size = 2 ∧ (lookF refT 5).1.2.2.2.2.1.size = 0 := ⟨by kernel_rfl, by kernel_rfl⟩
  unfold wholeN at h4
  rw [e1.1, e1.2, if_pos rfl] at h4
  split at h4
  · cases h4
  · have := of_decide_eq_true h4; omega
theorem shape_at {b : Int} {l : List InstT} (h : (shapeE b l).1 = 0) (k : Nat) (hk : k < l.length) : rawE (nthI l k) b = 0 := shape_each h k hk
end Go.Proofs.Ytcckepjpehjijaa

/-
  Plain facts on instructions with other ids.
-/
namespace Go.Proofs.Ytcckepjpehjijaa
open Go.RowKit
set_option linter.unusedVariables false

/-- An argument, an instruction, instructions with f i for each id i. -/
def tA (f : Int → Int) (a : ArgT) : ArgT := if a.1 = 1 then (a.1, f a.2.1, a.2.2) else a
def tN (f : Int → Int) (i : Int) : Int := if i = 0 then 0 else f i
def turnX (f : Int → Int) (x : InstT) : InstT := (x.1, tN f x.2.1, tN f x.2.2.1, x.2.2.2.map (tA f))
def turnL (f : Int → Int) (l : List InstT) : List InstT := l.map (turnX f)
/-- Its arguments, when the first k have been turned. -/
def turnTo (f : Int → Int) (l : List ArgT) (k : Nat) : List ArgT := (l.take k).map (tA f) ++ l.drop k
theorem turnTo_zero (f : Int → Int) (l : List ArgT) : turnTo f l 0 = l := by simp [turnTo]
theorem turnTo_all (f : Int → Int) (l : List ArgT) : turnTo f l l.length = l.map (tA f) := by simp [turnTo]
theorem turnTo_len (f : Int → Int) (l : List ArgT) (k : Nat) : (turnTo f l k).length = l.length := by simp [turnTo]; omega
theorem turnTo_at (f : Int → Int) (l : List ArgT) (k : Nat) (hk : k < l.length) : nthA (turnTo f l k) k = nthA l k := by
  unfold nthA turnTo
  have hl : ((l.take k).map (tA f)).length = k := by simp; omega
  rw [List.getD_eq_getElem?_getD, List.getD_eq_getElem?_getD, List.getElem?_append_right (by omega), hl, Nat.sub_self, List.getElem?_drop, Nat.add_zero]
theorem turnTo_set (f : Int → Int) (l : List ArgT) (k : Nat) (hk : k < l.length) : (turnTo f l k).set k (tA f (nthA l k)) = turnTo f l (k + 1) := by
  unfold turnTo
  have hl : ((l.take k).map (tA f)).length = k := by simp; omega
  rw [List.set_append_right _ _ (by omega), hl, Nat.sub_self, List.drop_eq_getElem_cons hk, List.set_cons_zero, List.take_add_one, List.getElem?_eq_getElem hk]
  have : nthA l k = l[k] := by simp [nthA, List.getD, hk]
  rw [this, List.map_append, List.append_assoc]
  rfl
theorem turnTo_same (f : Int → Int) (l : List ArgT) (k : Nat) (hk : k < l.length) (h : (nthA l k).1 ≠ 1) : turnTo f l (k + 1) = turnTo f l k := by
  rw [← turnTo_set f l k hk]
  have e : tA f (nthA l k) = nthA (turnTo f l k) k := by rw [turnTo_at f l k hk]; simp [tA, h]
  rw [e]
  have hk' : k < (turnTo f l k).length := by rw [turnTo_len]; exact hk
  have e2 : nthA (turnTo f l k) k = (turnTo f l k)[k] := by simp [nthA, List.getD, hk']
  rw [e2, List.set_getElem_self]
theorem flat_argU : ∀ (l : List ArgT) (k j : Nat), k < l.length → j < 3 → (l.flatMap argC)[k * 3 + j]? = (argC (nthA l k))[j]?
  | [], k, j, h, _ => by simp at h
  | x :: l, 0, j, _, hj => by
    rw [List.flatMap_cons, List.getElem?_append_left (by simp [argC]; omega)]
    simp [nthA]
  | x :: l, k + 1, j, h, hj => by
    rw [List.flatMap_cons, List.getElem?_append_right (by simp [argC]; omega)]
    have e : (k + 1) * 3 + j - (argC x).length = k * 3 + j := by simp [argC]; omega
    rw [e, flat_argU l k j (by simpa using h) hj]
    simp [nthA]
theorem flat_lenU (l : List ArgT) : (l.flatMap argC).length = l.length * 3 := by
  induction l with
  | nil => rfl
  | cons x l ih => rw [List.flatMap_cons, List.length_append, ih]; simp [argC]; omega
theorem flat_setU : ∀ (l : List ArgT) (k : Nat) (v : Int), k < l.length → (l.flatMap argC).set (k * 3 + 1) (.int .u32 v) = (l.set k ((nthA l k).1, v, (nthA l k).2.2)).flatMap argC
  | [], k, v, h => by simp at h
  | x :: l, 0, v, _ => by simp [argC, nthA]
  | x :: l, k + 1, v, h => by
    have e : (k + 1) * 3 + 1 = (argC x).length + (k * 3 + 1) := by simp [argC]; omega
    rw [List.flatMap_cons, e, List.set_append_right _ _ (by omega), Nat.add_sub_cancel_left, flat_setU l k v (by simpa using h)]
    simp [nthA]
/-- A store of a turned id. -/
theorem turn_set (f : Int → Int) (l : List ArgT) (k : Nat) (hk : k < l.length) (h : (nthA l k).1 = 1) : ((turnTo f l k).flatMap argC).set (k * 3 + 1) (.int .u32 (f (nthA l k).2.1)) = (turnTo f l (k + 1)).flatMap argC := by
  rw [flat_setU _ _ _ (by rw [turnTo_len]; exact hk), turnTo_at f l k hk, ← turnTo_set f l k hk]
  congr 2
  simp [tA, h]
theorem turnL_len (f : Int → Int) (l : List InstT) : (turnL f l).length = l.length := by simp [turnL]
theorem turnL_at (f : Int → Int) (l : List InstT) (k : Nat) (hk : k < l.length) : nthI (turnL f l) k = turnX f (nthI l k) := by simp [nthI, turnL, List.getD, hk]
theorem tA_ok {f : Int → Int} (hf : ∀ i, 0 ≤ f i ∧ f i < 4294967296) {a : ArgT} (h : ArgOk a) : ArgOk (tA f a) := by
  unfold tA
  split
  · exact ⟨h.1, h.2.1, (hf _).1, (hf _).2, h.2.2.2.2⟩
  · exact h
theorem turnX_ok {f : Int → Int} (hf : ∀ i, 0 ≤ f i ∧ f i < 4294967296) {x : InstT} (h : InstOk x) : InstOk (turnX f x) := by
  obtain ⟨h1, h2, h3, h4, h5, h6, h7, h8⟩ := h
  have ht : ∀ i, 0 ≤ tN f i ∧ tN f i < 4294967296 := fun i => by unfold tN; split; exact ⟨by omega, by omega⟩; exact hf i
  refine ⟨h1, h2, (ht _).1, (ht _).2, (ht _).1, (ht _).2, fun j hj => ?_, by simpa [turnX] using h8⟩
  simp only [turnX, List.length_map] at hj
  have : nthA (turnX f x).2.2.2 j = tA f (nthA x.2.2.2 j) := by simp [turnX, nthA, List.getD, hj]
  rw [this]
  exact tA_ok hf (h7 j hj)
theorem turnL_ok {f : Int → Int} (hf : ∀ i, 0 ≤ f i ∧ f i < 4294967296) {l : List InstT} (h : InstsOk l) : InstsOk (turnL f l) := fun k hk => by
  rw [turnL_len] at hk
  rw [turnL_at f l k hk]
  exact turnX_ok hf (h k hk)
end Go.Proofs.Ytcckepjpehjijaa

/-
  Plain facts on numbers that are those below a bound, each once.
-/
namespace Go.Proofs.Ytcckepjpehjijaa
open Go.RowKit
set_option linter.unusedVariables false

theorem nodup_len : ∀ (l l' : List Int), l.Nodup → (∀ x ∈ l, x ∈ l') → l.length ≤ l'.length
  | [], _, _, _ => by simp
  | a :: t, l', hn, hs => by
    have ha := hs a (by simp)
    obtain ⟨hn1, hn2⟩ := List.nodup_cons.1 hn
    have := nodup_len t (l'.erase a) hn2 (fun x hx => (List.mem_erase_of_ne (fun e => hn1 (by rw [← e]; exact hx))).2 (hs x (by simp [hx])))
    rw [List.length_erase_of_mem ha] at this
    have hp := List.length_pos_of_mem ha
    simp only [List.length_cons]
    omega
/-- The numbers from 1 to m. -/
def upTo (m : Nat) : List Int := (List.range m).map fun (k : Nat) => (k : Int) + 1
theorem upTo_len (m : Nat) : (upTo m).length = m := by simp [upTo]
theorem upTo_mem (m : Nat) (i : Int) : i ∈ upTo m ↔ 1 ≤ i ∧ i ≤ m := by
  unfold upTo
  rw [List.mem_map]
  constructor
  · rintro ⟨k, hk, rfl⟩; rw [List.mem_range] at hk; omega
  · rintro ⟨h1, h2⟩; exact ⟨(i - 1).toNat, by rw [List.mem_range]; omega, by omega⟩
theorem upTo_nodup : ∀ m : Nat, (upTo m).Nodup
  | 0 => by simp [upTo]
  | m + 1 => by
    have e : upTo (m + 1) = upTo m ++ [(m : Int) + 1] := by simp [upTo, List.range_succ]
    rw [e, List.nodup_append]
    refine ⟨upTo_nodup m, by simp, fun a ha b hb => ?_⟩
    rw [List.mem_singleton] at hb
    have := (upTo_mem m a).1 ha
    omega
/-- Each of the numbers from 1 to m once, among m numbers: just if those are different numbers from 1 to m. -/
theorem once_iff (t : List Int) (m : Nat) (hl : t.length = m) : (∀ i : Int, 1 ≤ i → i ≤ m → t.count i = 1) ↔ t.Nodup ∧ ∀ z ∈ t, 1 ≤ z ∧ z ≤ m := by
  constructor
  · intro h
    have hsub : ∀ x ∈ upTo m, x ∈ t := fun x hx => by
      have := (upTo_mem m x).1 hx
      exact List.count_pos_iff.1 (by rw [h x this.1 this.2]; omega)
    have hin : ∀ z ∈ t, 1 ≤ z ∧ z ≤ m := fun z hz => by
      by_cases hm : z ∈ upTo m
      · exact (upTo_mem m z).1 hm
      · exfalso
        have := nodup_len (z :: upTo m) t (List.nodup_cons.2 ⟨hm, upTo_nodup m⟩) (fun x hx => by
          rcases List.mem_cons.1 hx with rfl | hx
          · exact hz
          · exact hsub x hx)
        rw [List.length_cons, upTo_len] at this
        omega
    refine ⟨List.nodup_iff_count.2 fun a => ?_, hin⟩
    by_cases ha : a ∈ t
    · have := hin a ha; rw [h a this.1 this.2]; omega
    · rw [List.count_eq_zero.2 ha]; omega
  · rintro ⟨hn, hin⟩ i h1 h2
    have hle := List.nodup_iff_count.1 hn i
    have hmem : i ∈ t := by
      by_cases hm : i ∈ t
      · exact hm
      · exfalso
        have := nodup_len (i :: t) (upTo m) (List.nodup_cons.2 ⟨hm, hn⟩) (fun x hx => by
          rcases List.mem_cons.1 hx with rfl | hx
          · exact (upTo_mem m x).2 ⟨h1, h2⟩
          · exact (upTo_mem m x).2 (hin x hx))
        rw [List.length_cons, upTo_len] at this
        omega
    have := List.count_pos_iff.2 hmem
    omega
/-- Numbers by which ids may be renamed. -/
def IsWay (zs : List Int) (b : Int) : Prop := (zs.length : Int) = b ∧ nth zs 0 = 0 ∧ (∀ z ∈ zs, z < b) ∧ zs.Nodup
theorem way_iff {zs : List Int} {b : Int} (hw : Within 4294967296 zs) (hl : (zs.length : Int) = b) (h0 : nth zs 0 = 0) (hb : 1 ≤ b) : IsWay zs b ↔ ∀ i : Int, 1 ≤ i → i < b → (zs.drop 1).count i = 1 := by
  cases zs with
  | nil => simp at hl; omega
  | cons x t =>
    simp only [nth, List.getD_cons_zero] at h0
    subst h0
    have hlt : (t.length : Int) + 1 = b := by simpa using hl
    rw [List.drop_one, List.tail_cons]
    have key := once_iff t t.length rfl
    constructor
    · rintro ⟨_, _, h3, h4⟩ i h1 h2
      obtain ⟨n1, n2⟩ := List.nodup_cons.1 h4
      refine key.2 ⟨n2, fun z hz => ?_⟩ i h1 (by omega)
      have := h3 z (by simp [hz])
      have := (hw z (by simp [hz])).1
      have : z ≠ 0 := fun e => n1 (by rw [← e]; exact hz)
      omega
    · intro h
      obtain ⟨k1, k2⟩ := key.1 fun i h1 h2 => h i h1 (by omega)
      refine ⟨hl, rfl, fun z hz => ?_, List.nodup_cons.2 ⟨fun h0 => ?_, k1⟩⟩
      · rcases List.mem_cons.1 hz with rfl | hz
        · omega
        · have := k2 z hz; omega
      · have := k2 0 h0; omega
end Go.Proofs.Ytcckepjpehjijaa

/-
  Plain facts on the ids of a module of good shape: each lies below the bound; other ids by a list.
-/
namespace Go.Proofs.Ytcckepjpehjijaa
open Go.RowKit
set_option linter.unusedVariables false

def InB (b i : Int) : Prop := 1 ≤ i ∧ i < b
theorem idE_in {must : Bool} {n b e : Int} (h0 : 0 ≤ n) (he : e ≠ 0) (h : idE must n b e = 0) (hn : n ≠ 0) : InB b n := by
  unfold idE at h
  split at h
  · exact absurd h he
  · rename_i h1
    simp [hn] at h1
    subst h1
    split at h
    · cases h
    · rename_i h2
      simp at h2
      exact ⟨by omega, by omega⟩
theorem wrongA_in {c : Int} {x : ArgT} {b : Int} (h0 : 0 ≤ x.2.1) (h : wrongA c x b = 0) (hk : x.1 = 1) : InB b x.2.1 := by
  unfold wrongA at h
  split at h
  · cases h
  · rename_i h1
    rw [if_neg (by omega)] at h
    have hm : mayStandB c x = true := by simpa using h1
    unfold mayStandB at hm
    simp only [Bool.and_eq_true, beq_iff_eq] at hm
    have hkc : kindI c = 1 := by rw [← hm.1.2]; exact hk
    unfold faultW at h
    rw [if_pos hkc] at h
    split at h
    · cases h
    · rename_i h2
      unfold noneB at h2
      simp at h2
      exact ⟨by omega, by omega⟩
theorem wrongL_in {f : Frm} {b : Int} : ∀ (l : List ArgT) (k : Nat), wrongL f b k l = 0 → ∀ j, j < l.length → wrongA (letterI f ((k + j : Nat) : Int)) (nthA l j) b = 0
  | [], _, _, j, hj => by simp at hj
  | x :: l, k, h, j, hj => by
    rw [wrongL] at h
    by_cases h1 : wrongA (letterI f k) x b = 0
    · rw [if_pos h1] at h
      cases j with
      | zero => simpa [nthA] using h1
      | succ j =>
        have := wrongL_in l (k + 1) h j (by simpa using hj)
        rw [show k + (j + 1) = k + 1 + j by omega]
        simpa [nthA] using this
    · rw [if_neg h1] at h; exact absurd h h1
/-- The ids of an instruction that can be written lie below the bound. -/
theorem ids_in {x : InstT} {b : Int} (hok : InstOk x) (h : rawE x b = 0) : (x.2.1 ≠ 0 → InB b x.2.1) ∧ (x.2.2.1 ≠ 0 → InB b x.2.2.1) ∧ ∀ j, j < x.2.2.2.length → (nthA x.2.2.2 j).1 = 1 → InB b (nthA x.2.2.2 j).2.1 := by
  obtain ⟨_, h2, _⟩ := rawWs_ok h
  obtain ⟨i1, i2, i3, _, _⟩ := faultI_zero h2
  obtain ⟨_, _, a3, _, a5, _, a7, _⟩ := hok
  refine ⟨fun hn => idE_in a3 (by decide) i1 hn, fun hn => idE_in a5 (by decide) i2 hn, fun j hj hk => ?_⟩
  exact wrongA_in (a7 j hj).2.2.1 (wrongL_in _ 0 i3 j hj) hk
/-- Other ids, by a list of numbers. -/
def fW (zs : List Int) (i : Int) : Int := nth zs i.toNat
theorem fW_nat (zs : List Int) (k : Nat) : fW zs (k : Int) = nth zs k := rfl
theorem fW_range {zs : List Int} (hw : Within 4294967296 zs) (i : Int) : 0 ≤ fW zs i ∧ fW zs i < 4294967296 := by
  unfold fW
  by_cases h : i.toNat < zs.length
  · exact hw.at h
  · have : nth zs i.toNat = 0 := by unfold nth; rw [List.getD_eq_getElem?_getD, List.getElem?_eq_none (by omega)]; rfl
    rw [this]; omega
end Go.Proofs.Ytcckepjpehjijaa

/-
  Sums of bits.
-/
namespace Go.Proofs.Ytcckepjpehjijaa
open Go.RowKit
set_option linter.unusedVariables false
set_option linter.unusedSimpArgs false

theorem or512 : bits .or .u16 0 512 = 512 := by decide +kernel
theorem or2048 : bits .or .u16 0 2048 = 2048 := by decide +kernel
theorem or1024 : bits .or .u16 0 1024 = 1024 := by decide +kernel
theorem or2560 : bits .or .u16 2048 512 = 2560 := by decide +kernel
theorem or3072 : bits .or .u16 1024 2048 = 3072 := by decide +kernel
theorem or3584 : bits .or .u16 3072 512 = 3584 := by decide +kernel

end Go.Proofs.Ytcckepjpehjijaa

/-
  What kindOf of the package layout answers, of some operations.
-/
namespace Go.Proofs.Ytcckepjpehjijaa
open Go.RowKit
set_option linter.unusedVariables false
set_option linter.unusedSimpArgs false

set_option maxHeartbeats 1000000 in
theorem kindOf_54 (w : World) : Calls Try.prog 27 #[.int .u16 54] w fun e w' => e = .returned (.int .u16 1) ∧ w = w' := by
  go_enter Try.func27, Try.ntmps27
  go_wp2
  go_ret
  simp [or512, or1024, or2048, or2560, or3072, or3584]

set_option maxHeartbeats 1000000 in
theorem kindOf_55 (w : World) : Calls Try.prog 27 #[.int .u16 55] w fun e w' => e = .returned (.int .u16 2) ∧ w = w' := by
  go_enter Try.func27, Try.ntmps27
  go_wp2
  go_ret
  simp [or512, or1024, or2048, or2560, or3072, or3584]

set_option maxHeartbeats 1000000 in
theorem kindOf_56 (w : World) : Calls Try.prog 27 #[.int .u16 56] w fun e w' => e = .returned (.int .u16 4) ∧ w = w' := by
  go_enter Try.func27, Try.ntmps27
  go_wp2
  go_ret
  simp [or512, or1024, or2048, or2560, or3072, or3584]

set_option maxHeartbeats 1000000 in
theorem kindOf_248 (w : World) : Calls Try.prog 27 #[.int .u16 248] w fun e w' => e = .returned (.int .u16 8) ∧ w = w' := by
  go_enter Try.func27, Try.ntmps27
  go_wp2
  go_ret
  simp [or512, or1024, or2048, or2560, or3072, or3584]

set_option maxHeartbeats 1000000 in
theorem kindOf_59 (w : World) : Calls Try.prog 27 #[.int .u16 59] w fun e w' => e = .returned (.int .u16 16) ∧ w = w' := by
  go_enter Try.func27, Try.ntmps27
  go_wp2
  go_ret
  simp [or512, or1024, or2048, or2560, or3072, or3584]

set_option maxHeartbeats 1000000 in
theorem kindOf_245 (w : World) : Calls Try.prog 27 #[.int .u16 245] w fun e w' => e = .returned (.int .u16 32) ∧ w = w' := by
  go_enter Try.func27, Try.ntmps27
  go_wp2
  go_ret
  simp [or512, or1024, or2048, or2560, or3072, or3584]

end Go.Proofs.Ytcckepjpehjijaa

/-
  What kindOf of the package layout answers, of some operations.
-/
namespace Go.Proofs.Ytcckepjpehjijaa
open Go.RowKit
set_option linter.unusedVariables false
set_option linter.unusedSimpArgs false

set_option maxHeartbeats 1000000 in
theorem kindOf_247 (w : World) : Calls Try.prog 27 #[.int .u16 247] w fun e w' => e = .returned (.int .u16 128) ∧ w = w' := by
  go_enter Try.func27, Try.ntmps27
  go_wp2
  go_ret
  simp [or512, or1024, or2048, or2560, or3072, or3584]

set_option maxHeartbeats 1000000 in
theorem kindOf_246 (w : World) : Calls Try.prog 27 #[.int .u16 246] w fun e w' => e = .returned (.int .u16 256) ∧ w = w' := by
  go_enter Try.func27, Try.ntmps27
  go_wp2
  go_ret
  simp [or512, or1024, or2048, or2560, or3072, or3584]

set_option maxHeartbeats 1000000 in
theorem kindOf_250 (w : World) : Calls Try.prog 27 #[.int .u16 250] w fun e w' => e = .returned (.int .u16 3584) ∧ w = w' := by
  go_enter Try.func27, Try.ntmps27
  go_wp2
  go_ret
  simp [or512, or1024, or2048, or2560, or3072, or3584]

end Go.Proofs.Ytcckepjpehjijaa

/-
  What kindOf of the package layout answers, of some operations.
-/
namespace Go.Proofs.Ytcckepjpehjijaa
open Go.RowKit
set_option linter.unusedVariables false
set_option linter.unusedSimpArgs false

set_option maxHeartbeats 1000000 in
theorem kindOf_249 (w : World) : Calls Try.prog 27 #[.int .u16 249] w fun e w' => e = .returned (.int .u16 2560) ∧ w = w' := by
  go_enter Try.func27, Try.ntmps27
  go_wp2
  go_ret
  simp [or512, or1024, or2048, or2560, or3072, or3584]

set_option maxHeartbeats 1000000 in
theorem kindOf_252 (w : World) : Calls Try.prog 27 #[.int .u16 252] w fun e w' => e = .returned (.int .u16 512) ∧ w = w' := by
  go_enter Try.func27, Try.ntmps27
  go_wp2
  go_ret
  simp [or512, or1024, or2048, or2560, or3072, or3584]

end Go.Proofs.Ytcckepjpehjijaa

/-
  What kindOf of the package layout answers, of some operations.
-/
namespace Go.Proofs.Ytcckepjpehjijaa
open Go.RowKit
set_option linter.unusedVariables false
set_option linter.unusedSimpArgs false

set_option maxHeartbeats 1000000 in
theorem kindOf_253 (w : World) : Calls Try.prog 27 #[.int .u16 253] w fun e w' => e = .returned (.int .u16 512) ∧ w = w' := by
  go_enter Try.func27, Try.ntmps27
  go_wp2
  go_ret
  simp [or512, or1024, or2048, or2560, or3072, or3584]

set_option maxHeartbeats 1000000 in
theorem kindOf_254 (w : World) : Calls Try.prog 27 #[.int .u16 254] w fun e w' => e = .returned (.int .u16 512) ∧ w = w' := by
  go_enter Try.func27, Try.ntmps27
  go_wp2
  go_ret
  simp [or512, or1024, or2048, or2560, or3072, or3584]

end Go.Proofs.Ytcckepjpehjijaa

/-
  What kindOf of the package layout answers, of some operations.
-/
namespace Go.Proofs.Ytcckepjpehjijaa
open Go.RowKit
set_option linter.unusedVariables false
set_option linter.unusedSimpArgs false

set_option maxHeartbeats 1000000 in
theorem kindOf_255 (w : World) : Calls Try.prog 27 #[.int .u16 255] w fun e w' => e = .returned (.int .u16 512) ∧ w = w' := by
  go_enter Try.func27, Try.ntmps27
  go_wp2
  go_ret
  simp [or512, or1024, or2048, or2560, or3072, or3584]

set_option maxHeartbeats 1000000 in
theorem kindOf_251 (w : World) : Calls Try.prog 27 #[.int .u16 251] w fun e w' => e = .returned (.int .u16 1536) ∧ w = w' := by
  go_enter Try.func27, Try.ntmps27
  go_wp2
  go_ret
  simp [or512, or1024, or2048, or2560, or3072, or3584]

end Go.Proofs.Ytcckepjpehjijaa

/-
  What kindOf of the package layout answers, of some operations.
-/
namespace Go.Proofs.Ytcckepjpehjijaa
open Go.RowKit
set_option linter.unusedVariables false
set_option linter.unusedSimpArgs false

set_option maxHeartbeats 1000000 in
theorem kindOf_other (op : Int) (w : World) (h54 : (op == 54) = false) (h55 : (op == 55) = false) (h56 : (op == 56) = false) (h248 : (op == 248) = false) (h59 : (op == 59) = false) (h245 : (op == 245) = false) (h247 : (op == 247) = false) (h246 : (op == 246) = false) (h250 : (op == 250) = false) (h249 : (op == 249) = false) (h252 : (op == 252) = false) (h253 : (op == 253) = false) (h254 : (op == 254) = false) (h255 : (op == 255) = false) (h251 : (op == 251) = false) : Calls Try.prog 27 #[.int .u16 op] w fun e w' => e = .returned (.int .u16 64) ∧ w = w' := by
  go_enter Try.func27, Try.ntmps27
  go_wp2
  go_ret
  simp

end Go.Proofs.Ytcckepjpehjijaa

/-
  What kindOf and Ends of the package layout answer, and Ends of the document.
-/
namespace Go.Proofs.Ytcckepjpehjijaa
open Go.RowKit
set_option linter.unusedVariables false
set_option linter.unusedSimpArgs false

/-- What an operation is in a function. -/
def kindOp (op : Int) : Int :=
  if op = 54 then 1 else if op = 55 then 2 else if op = 56 then 4 else if op = 248 then 8 else if op = 59 then 16 else if op = 245 then 32 else if op = 247 then 128 else if op = 246 then 256
  else if op = 250 then 3584 else if op = 249 then 2560 else if op = 252 ∨ op = 253 ∨ op = 254 ∨ op = 255 then 512 else if op = 251 then 1536 else 64
/-- Does it end a block? -/
def endsB (op : Int) : Bool := decide (249 ≤ op) && decide (op ≤ 255)

theorem kindOf_any (op : Int) (w : World) : Calls Try.prog 27 #[.int .u16 op] w fun e w' => e = .returned (.int .u16 (kindOp op)) ∧ w = w' := by
  by_cases h54 : op = 54
  · subst h54; exact kindOf_54 w
  by_cases h55 : op = 55
  · subst h55; exact kindOf_55 w
  by_cases h56 : op = 56
  · subst h56; exact kindOf_56 w
  by_cases h248 : op = 248
  · subst h248; exact kindOf_248 w
  by_cases h59 : op = 59
  · subst h59; exact kindOf_59 w
  by_cases h245 : op = 245
  · subst h245; exact kindOf_245 w
  by_cases h247 : op = 247
  · subst h247; exact kindOf_247 w
  by_cases h246 : op = 246
  · subst h246; exact kindOf_246 w
  by_cases h250 : op = 250
  · subst h250; exact kindOf_250 w
  by_cases h249 : op = 249
  · subst h249; exact kindOf_249 w
  by_cases h252 : op = 252
  · subst h252; exact kindOf_252 w
  by_cases h253 : op = 253
  · subst h253; exact kindOf_253 w
  by_cases h254 : op = 254
  · subst h254; exact kindOf_254 w
  by_cases h255 : op = 255
  · subst h255; exact kindOf_255 w
  by_cases h251 : op = 251
  · subst h251; exact kindOf_251 w
  have e : kindOp op = 64 := by
    unfold kindOp
    simp [h54, h55, h56, h248, h59, h245, h247, h246, h250, h249, h252, h253, h254, h255, h251]
  rw [e]
  exact kindOf_other op w (by simpa using h54) (by simpa using h55) (by simpa using h56) (by simpa using h248) (by simpa using h59) (by simpa using h245) (by simpa using h247) (by simpa using h246) (by simpa using h250) (by simpa using h249) (by simpa using h252) (by simpa using h253) (by simpa using h254) (by simpa using h255) (by simpa using h251)

end Go.Proofs.Ytcckepjpehjijaa

/-
  A frame as its slots: any frame of so many slots is the list of them.
-/
namespace Go.Proofs.Ytcckepjpehjijaa
open Go

theorem hide {p : Prop} (h : p) : Go.RowKit.Hid p := h
/-- What a slot holds. -/
def slot (t : Array Value) (i : Nat) : Value := t.getD i undef
theorem frame_eq (t : Array Value) (n : Nat) (h : t.size = n) : t = ((List.range n).map (slot t)).toArray := by
  apply Array.ext
  · simp [h]
  · intro i h1 h2
    simp [slot, Array.getD, h1]
theorem frame99 (t : Array Value) (h : t.size = 99) : t = #[slot t 0, slot t 1, slot t 2, slot t 3, slot t 4, slot t 5, slot t 6, slot t 7, slot t 8, slot t 9, slot t 10, slot t 11, slot t 12, slot t 13, slot t 14, slot t 15, slot t 16, slot t 17, slot t 18, slot t 19, slot t 20, slot t 21, slot t 22, slot t 23, slot t 24, slot t 25, slot t 26, slot t 27, slot t 28, slot t 29, slot t 30, slot t 31, slot t 32, slot t 33, slot t 34, slot t 35, slot t 36, slot t 37, slot t 38, slot t 39, slot t 40, slot t 41, slot t 42, slot t 43, slot t 44, slot t 45, slot t 46, slot t 47, slot t 48, slot t 49, slot t 50, slot t 51, slot t 52, slot t 53, slot t 54, slot t 55, slot t 56, slot t 57, slot t 58, slot t 59, slot t 60, slot t 61, slot t 62, slot t 63, slot t 64, slot t 65, slot t 66, slot t 67, slot t 68, slot t 69, slot t 70, slot t 71, slot t 72, slot t 73, slot t 74, slot t 75, slot t 76, slot t 77, slot t 78, slot t 79, slot t 80, slot t 81, slot t 82, slot t 83, slot t 84, slot t 85, slot t 86, slot t 87, slot t 88, slot t 89, slot t 90, slot t 91, slot t 92, slot t 93, slot t 94, slot t 95, slot t 96, slot t 97, slot t 98] := (frame_eq t 99 h).trans rfl

/-- What holds where a piece of code goes on. -/
def onNormal (K : Act → World → Prop) : Exit → Act → World → Prop
  | .normal, a, w => K a w
  | _, _, _ => False
theorem onNormal_normal (K : Act → World → Prop) (a : Act) (w : World) : onNormal K .normal a w = K a w := rfl
theorem wp_norm {P : Program} {c : Code} {Q : Exit → Act → World → Prop} {a : Act} {w : World} (h : c.wp P (onNormal (Q .normal)) a w) : c.wp P Q a w :=
  wp_mono h fun e a w h => by
    cases e with
    | normal => exact h
    | _ => exact False.elim h

end Go.Proofs.Ytcckepjpehjijaa

/-
  Inst of the kit tells whether two instructions are the same.
-/
namespace Go.Proofs.Ytcckepjpehjijaa
open Go.RowKit
set_option maxRecDepth 10000

theorem two_boxes (w : World) (o p : Obj) : Below w.heap.size w ((w.alloc o).alloc p) := ((Below.refl _ w).alloc (Nat.le_refl _) _).alloc (by simp) _

theorem block_two (w : World) (xs ys : Array Value) (S T : Nat) :
    (∀ i, ((w.alloc (.cells xs S)).alloc (.cells ys T)).cell? ⟨w.heap.size, i, none⟩ = xs[i]?) ∧ (∀ i, ((w.alloc (.cells xs S)).alloc (.cells ys T)).cell? ⟨w.heap.size + 1, i, none⟩ = ys[i]?) := by
  constructor
  · intro i
    have h : ((w.alloc (.cells xs S)).alloc (.cells ys T)).heap[w.heap.size]? = some (.cells xs S (0, 0)) := (Below.heap_alloc _ _ _ (by simp)).trans (heap_alloc_new w _)
    simp only [World.cell?, h]; rfl
  · intro i
    have h : ((w.alloc (.cells xs S)).alloc (.cells ys T)).heap[w.heap.size + 1]? = some (.cells ys T (0, 0)) := by simpa using heap_alloc_new (w.alloc (.cells xs S)) (.cells ys T)
    simp only [World.cell?, h]; rfl

end Go.Proofs.Ytcckepjpehjijaa

/-
  Module of the kit tells whether two modules are the same.
-/
namespace Go.Proofs.Ytcckepjpehjijaa
open Go.RowKit
set_option maxRecDepth 10000

def modV (g b : Int) (a : Option Addr) (n c : Nat) : Value := .agg #[.int .u32 g, .int .u32 b, .slice a n c]

end Go.Proofs.Ytcckepjpehjijaa

/-
  A walk over a module's instructions, in memory; partOf of the package layout.
-/
namespace Go.Proofs.Ytcckepjpehjijaa
open Go.RowKit
set_option linter.unusedVariables false
set_option linter.unusedSimpArgs false
set_option maxRecDepth 10000

/-- The part of an operation. -/
def partO (op : Int) : Int := if (lookF refT op).2 then (lookF refT op).1.2.2.2.2.2.2 else 0
/-- The part of an instruction. -/
def partI (x : InstT) : Int := if x.1 = 59 ∧ (nthA x.2.2.2 0).2.1 = 7 then 8 else partO x.1
/-- What it is to a function's order. -/
def kindX (x : InstT) : Int := if partI x = 8 then kindOp x.1 else 0
/-- What is next at a place: part and kind. -/
def partAt (l : List InstT) (k : Nat) : Int := if k < l.length then partI (nthI l k) else 9
def kindAt (l : List InstT) (k : Nat) : Int := if k < l.length then kindX (nthI l k) else 0

/-- A variable has an argument. -/
theorem var_args {x : InstT} {b : Int} (h : rawE x b = 0) (h5 : x.1 = 59) : 1 ≤ x.2.2.2.length := by
  obtain ⟨h1, h2, _⟩ := rawWs_ok h
  have h4 := (faultI_zero h2).2.2.2.1
  rw [h5] at h4
  have e1 : (lookF refT 59).1.2.2.2.1.size = 1 := by kernel_rfl
  unfold wholeN at h4
  rw [e1] at h4
  split at h4
  · cases h4
  · omega

/-- Only block B and new blocks turn. -/
structure KeepB (B : Nat) (w w' : World) : Prop where
  os : w'.os = w.os
  tape : w'.tape = w.tape
  output : w'.output = w.output
  size : w.heap.size ≤ w'.heap.size
  block : ∀ k, k < w.heap.size → k ≠ B → w'.heap[k]? = w.heap[k]?
theorem KeepB.refl (B : Nat) (w : World) : KeepB B w w := ⟨rfl, rfl, rfl, Nat.le_refl _, fun _ _ _ => rfl⟩
theorem KeepB.trans {B : Nat} {w w' w'' : World} (h : KeepB B w w') (h' : KeepB B w' w'') : KeepB B w w'' :=
  ⟨h'.os.trans h.os, h'.tape.trans h.tape, h'.output.trans h.output, Nat.le_trans h.size h'.size, fun k hk hb => (h'.block k (Nat.lt_of_lt_of_le hk h.size) hb).trans (h.block k hk hb)⟩
theorem KeepB.of_below {B : Nat} {w w' : World} (h : Below w.heap.size w w') : KeepB B w w' := ⟨h.os, h.tape, h.output, h.size, fun k hk _ => h.block k hk⟩
theorem KeepB.set {B : Nat} (w : World) (i : Nat) (v : Value) : KeepB B w (w.setCell ⟨B, i, none⟩ v) := ⟨rfl, rfl, rfl, by rw [World.size_setCell]; exact Nat.le_refl _, fun k _ hb => Below.heap_setCell _ _ _ _ (by simpa using hb)⟩

/-- The walk's box at block B: instructions, parts, functions, place, part, kind. -/
structure WkB (B : Nat) (ins : Value) (ps : Nat → Int) (fv : Value) (at_ part kind : Int) (W : World) : Prop where
  blk : ∃ cs : Array Value, W.heap[B]? = some (.cells cs 63 (0, 0)) ∧ cs.size = 25 ∧ cs[0]? = some ins ∧ (∀ i, i < 20 → cs[1 + i]? = some (.int .i64 (ps i))) ∧ cs[21]? = some fv ∧ cs[22]? = some (.int .i64 at_) ∧ cs[23]? = some (.int .u8 part) ∧ cs[24]? = some (.int .u16 kind)
theorem WkB.lt {B : Nat} {ins : Value} {ps : Nat → Int} {fv : Value} {at_ part kind : Int} {W : World} (h : WkB B ins ps fv at_ part kind W) : B < W.heap.size := by obtain ⟨cs, h1, _⟩ := h.blk; exact (Array.getElem?_eq_some_iff.1 h1).1
theorem WkB.block {B : Nat} {ins : Value} {ps : Nat → Int} {fv : Value} {at_ part kind : Int} {W W' : World} (h : WkB B ins ps fv at_ part kind W) (hb : W'.heap[B]? = W.heap[B]?) : WkB B ins ps fv at_ part kind W' := by
  obtain ⟨cs, h1, h2⟩ := h.blk; exact ⟨cs, hb.trans h1, h2⟩
theorem WkB.below {B : Nat} {ins : Value} {ps : Nat → Int} {fv : Value} {at_ part kind : Int} {W W' : World} (h : WkB B ins ps fv at_ part kind W) (hb : Below W.heap.size W W') : WkB B ins ps fv at_ part kind W' := h.block (hb.block B h.lt)
theorem WkB.cells {B : Nat} {ins : Value} {ps : Nat → Int} {fv : Value} {at_ part kind : Int} {W : World} (h : WkB B ins ps fv at_ part kind W) : W.cell? ⟨B, 0, none⟩ = some ins ∧ (∀ i, i < 20 → W.cell? ⟨B, 1 + i, none⟩ = some (.int .i64 (ps i))) ∧ W.cell? ⟨B, 21, none⟩ = some fv ∧ W.cell? ⟨B, 22, none⟩ = some (.int .i64 at_) ∧ W.cell? ⟨B, 23, none⟩ = some (.int .u8 part) ∧ W.cell? ⟨B, 24, none⟩ = some (.int .u16 kind) ∧ ∀ i, W.frozen? ⟨B, i, none⟩ = false := by
  obtain ⟨cs, h1, h2, h3, h4, h5, h6, h7, h8⟩ := h.blk
  have e : ∀ i, W.cell? ⟨B, i, none⟩ = cs[i]? := fun i => by simp [World.cell?, h1]
  exact ⟨(e 0).trans h3, fun i hi => (e _).trans (h4 i hi), (e 21).trans h5, (e 22).trans h6, (e 23).trans h7, (e 24).trans h8, fun i => by simp [World.frozen?, h1]⟩
theorem WkB.put {B : Nat} {ins : Value} {ps : Nat → Int} {fv : Value} {at_ part kind : Int} {W : World} (h : WkB B ins ps fv at_ part kind W) (i : Nat) (v : Value) {ins' : Value} {ps' : Nat → Int} {fv' : Value} {at' part' kind' : Int}
    (k0 : (if i = 0 then v else ins) = ins') (kp : ∀ j, j < 20 → (if i = 1 + j then v else .int .i64 (ps j)) = .int .i64 (ps' j)) (k21 : (if i = 21 then v else fv) = fv') (k22 : (if i = 22 then v else .int .i64 at_) = .int .i64 at') (k23 : (if i = 23 then v else .int .u8 part) = .int .u8 part') (k24 : (if i = 24 then v else .int .u16 kind) = .int .u16 kind') : WkB B ins' ps' fv' at' part' kind' (W.setCell ⟨B, i, none⟩ v) := by
  obtain ⟨cs, h1, h2, h3, h4, h5, h6, h7, h8⟩ := h.blk
  have e : ∀ (j : Nat) (u u' : Value), j < 25 → cs[j]? = some u → (if i = j then v else u) = u' → (cs.setIfInBounds i v)[j]? = some u' := fun j u u' hj hu hk => by
    by_cases hij : i = j
    · subst hij; rw [if_pos rfl] at hk; rw [Array.getElem?_setIfInBounds_self_of_lt (by omega), hk]
    · rw [if_neg hij] at hk; rw [Array.getElem?_setIfInBounds_ne hij, hu, hk]
  exact ⟨cs.setIfInBounds i v, by simp [World.setCell, Array.getElem?_modify, h1], by simp [h2], e 0 _ _ (by omega) h3 k0, fun j hj => e (1 + j) _ _ (by omega) (h4 j hj) (kp j hj), e 21 _ _ (by omega) h5 k21, e 22 _ _ (by omega) h6 k22, e 23 _ _ (by omega) h7 k23, e 24 _ _ (by omega) h8 k24⟩
theorem WkB.setAt {B : Nat} {ins : Value} {ps : Nat → Int} {fv : Value} {at_ part kind : Int} {W : World} (h : WkB B ins ps fv at_ part kind W) (x : Int) : WkB B ins ps fv x part kind (W.setCell ⟨B, 22, none⟩ (.int .i64 x)) := h.put 22 _ (by simp) (fun j hj => by rw [if_neg (by omega)]) (by simp) (by simp) (by simp) (by simp)
theorem WkB.setPart {B : Nat} {ins : Value} {ps : Nat → Int} {fv : Value} {at_ part kind : Int} {W : World} (h : WkB B ins ps fv at_ part kind W) (x : Int) : WkB B ins ps fv at_ x kind (W.setCell ⟨B, 23, none⟩ (.int .u8 x)) := h.put 23 _ (by simp) (fun j hj => by rw [if_neg (by omega)]) (by simp) (by simp) (by simp) (by simp)
theorem WkB.setKind {B : Nat} {ins : Value} {ps : Nat → Int} {fv : Value} {at_ part kind : Int} {W : World} (h : WkB B ins ps fv at_ part kind W) (x : Int) : WkB B ins ps fv at_ part x (W.setCell ⟨B, 24, none⟩ (.int .u16 x)) := h.put 24 _ (by simp) (fun j hj => by rw [if_neg (by omega)]) (by simp) (by simp) (by simp) (by simp)
theorem WkB.setFuncs {B : Nat} {ins : Value} {ps : Nat → Int} {fv : Value} {at_ part kind : Int} {W : World} (h : WkB B ins ps fv at_ part kind W) (x : Value) : WkB B ins ps x at_ part kind (W.setCell ⟨B, 21, none⟩ x) := h.put 21 _ (by simp) (fun j hj => by rw [if_neg (by omega)]) (by simp) (by simp) (by simp) (by simp)
theorem WkB.setSpan {B : Nat} {ins : Value} {ps : Nat → Int} {fv : Value} {at_ part kind : Int} {W : World} (h : WkB B ins ps fv at_ part kind W) (i : Nat) (hi : i < 20) (x : Int) : WkB B ins (fun j => if j = i then x else ps j) fv at_ part kind (W.setCell ⟨B, 1 + i, none⟩ (.int .i64 x)) := h.put (1 + i) _ (by rw [if_neg (by omega)]) (fun j hj => by by_cases e : j = i <;> simp [e]; intro e2; exact absurd (by omega) e) (by rw [if_neg (by omega)]) (by rw [if_neg (by omega)]) (by rw [if_neg (by omega)]) (by rw [if_neg (by omega)])

set_option maxHeartbeats 4000000 in
theorem partOf_any (x : InstT) (ax : Option Addr) (n cx : Nat) (w : World) (hv : ArgsV w ax x.2.2.2) (hl : x.2.2.2.length = n) (h59 : x.1 = 59 → 1 ≤ n) :
    Calls Try.prog 41 #[instV x ax n cx] w fun e w' => e = .returned (.int .u8 (partI x)) ∧ Below w.heap.size w w' := by
  obtain ⟨xo, xt, xr, xl⟩ := x
  unfold instV partI
  simp only at *
  have hO := fun wx => of_any xo wx
  have hba : Below w.heap.size w (w.alloc (.cells #[.int .u16 xo, .int .u32 xt, .int .u32 xr, .slice ax n cx] 58)) := (Below.refl _ w).alloc (Nat.le_refl _) _
  have HBA := hide hba
  have hof : ∃ nm ty re fx rs mo o, ofV xo = .agg #[.int .u16 o, .string nm, .bool ty, .bool re, .string fx, .string rs, .int .i64 mo, .int .u8 (partO xo)] := by
    unfold ofV partO formV
    cases h : (lookF refT xo).2 with
    | true => exact ⟨_, _, _, _, _, _, _, by simp; exact ⟨rfl, rfl, rfl, rfl, rfl, rfl, rfl⟩⟩
    | false => exact ⟨_, _, _, _, _, _, _, by simp [noFrm]; exact ⟨rfl, rfl, rfl, rfl, rfl, rfl, rfl⟩⟩
  obtain ⟨nm, ty, re, fx, rs, mo, o, ho⟩ := hof
  rw [ho] at hO
  generalize hp : partO xo = po at *
  have OTHER : ¬ (xo = 59 ∧ (nthA xl 0).2.1 = 7) → Calls Try.prog 41 #[.agg #[.int .u16 xo, .int .u32 xt, .int .u32 xr, .slice ax n cx]] w fun e w' => e = .returned (.int .u8 po) ∧ Below w.heap.size w w' := by
    intro hno
    by_cases h1 : xo = 59
    · subst h1
      have h7 : (nthA xl 0).2.1 ≠ 7 := fun e => hno ⟨rfl, e⟩
      obtain ⟨ba, oa, rfl, hb, z0, z1, z2⟩ := hv 0 (by have := h59 rfl; omega)
      have hn0 : (0 : Int) < (n : Int) := by have := h59 rfl; omega
      have zz1 := (hba.cell (p := ⟨ba, oa + 0 * 3 + 1, none⟩) hb).trans z1
      rw [show oa + 0 * 3 + 1 = oa + 1 by omega] at zz1
      generalize (nthA xl 0).2.1 = y at *
      have h7' : (y == 7) = false := by simpa using h7
      clear hno h7 hv hl h59 z0 z1 z2 hba hp ho
      go_enter Try.func41, Try.ntmps41
      go_wp2_with fail
      refine (hO _).mono ?_
      rintro e w1 ⟨rfl, hb1⟩
      have HB1 := hide (HBA.out.trans (hb1.mono HBA.out.size))
      clear hb1 hO zz1
      go_wp2_with fail
      go_ret
      exact ⟨rfl, HB1.out.alloc HB1.out.size _⟩
    · have h1' : (xo == 59) = false := by simpa using h1
      clear hno h1 hv hl h59 hba hp ho
      go_enter Try.func41, Try.ntmps41
      go_wp2_with fail
      refine (hO _).mono ?_
      rintro e w1 ⟨rfl, hb1⟩
      have HB1 := hide (HBA.out.trans (hb1.mono HBA.out.size))
      clear hb1 hO
      go_wp2_with fail
      go_ret
      exact ⟨rfl, HB1.out.alloc HB1.out.size _⟩
  by_cases hc : xo = 59 ∧ (nthA xl 0).2.1 = 7
  · rw [if_pos hc]
    obtain ⟨rfl, h7⟩ := hc
    obtain ⟨ba, oa, rfl, hb, z0, z1, z2⟩ := hv 0 (by have := h59 rfl; omega)
    have hn0 : (0 : Int) < (n : Int) := by have := h59 rfl; omega
    rw [h7] at z1
    have zz1 := (hba.cell (p := ⟨ba, oa + 0 * 3 + 1, none⟩) hb).trans z1
    rw [show oa + 0 * 3 + 1 = oa + 1 by omega] at zz1
    clear OTHER h7 hv hl h59 z0 z1 z2 hba hp ho hO
    go_enter Try.func41, Try.ntmps41
    go_wp2_with fail
    go_ret
    exact ⟨rfl, HBA.out⟩
  · rw [if_neg hc]
    exact OTHER hc

end Go.Proofs.Ytcckepjpehjijaa

/-
  What Ends of the package layout and Ends of the document answer.
-/
namespace Go.Proofs.Ytcckepjpehjijaa
open Go.RowKit
set_option linter.unusedVariables false
set_option linter.unusedSimpArgs false

theorem kind_ends (op : Int) : (bits .and .u16 (kindOp op) 512 == 0) = !(endsB op) := by
  by_cases h54 : op = 54
  · subst h54; decide +kernel
  by_cases h55 : op = 55
  · subst h55; decide +kernel
  by_cases h56 : op = 56
  · subst h56; decide +kernel
  by_cases h248 : op = 248
  · subst h248; decide +kernel
  by_cases h59 : op = 59
  · subst h59; decide +kernel
  by_cases h245 : op = 245
  · subst h245; decide +kernel
  by_cases h247 : op = 247
  · subst h247; decide +kernel
  by_cases h246 : op = 246
  · subst h246; decide +kernel
  by_cases h250 : op = 250
  · subst h250; decide +kernel
  by_cases h249 : op = 249
  · subst h249; decide +kernel
  by_cases h252 : op = 252
  · subst h252; decide +kernel
  by_cases h253 : op = 253
  · subst h253; decide +kernel
  by_cases h254 : op = 254
  · subst h254; decide +kernel
  by_cases h255 : op = 255
  · subst h255; decide +kernel
  by_cases h251 : op = 251
  · subst h251; decide +kernel
  have e : kindOp op = 64 := by
    unfold kindOp
    simp [h54, h55, h56, h248, h59, h245, h247, h246, h250, h249, h252, h253, h254, h255, h251]
  have e2 : endsB op = false := by unfold endsB; simp; omega
  rw [e, e2]
  decide +kernel

set_option maxHeartbeats 1000000 in
theorem ends_any (op : Int) (w : World) : Calls Try.prog 17 #[.int .u16 op] w fun e w' => e = .returned (.bool (endsB op)) ∧ w = w' := by
  have hK := fun w => kindOf_any op w
  have hE := kind_ends op
  generalize kindOp op = k at *
  go_enter Try.func17, Try.ntmps17
  go_wp2_with fail
  refine (hK _).mono ?_
  rintro e w' ⟨rfl, rfl⟩
  go_wp2
  go_ret
  simp [bne, hE]

set_option maxHeartbeats 1000000 in
theorem refEnds_any (op : Int) (w : World) : Calls Try.prog 19 #[.int .u16 op] w fun e w' => e = .returned (.bool (endsB op)) ∧ w = w' := by
  go_enter Try.func19, Try.ntmps19
  go_wp2
  all_goals
    go_ret
    refine ⟨congrArg (fun b => Ending.returned (.bool b)) ?_, rfl⟩
    first | (rw [Bool.eq_iff_iff]; simp [endsB]; omega) | (simp [endsB]; omega) | simp_all [endsB]

end Go.Proofs.Ytcckepjpehjijaa
