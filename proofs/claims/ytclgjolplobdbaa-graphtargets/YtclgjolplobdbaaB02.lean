/-
  Texts laid together in one: KitSpoilWords, Law02Apart, RowX, MathGr, Append, AppendView.
-/
import Derived.WalkSpells
import Derived.Test.YtclgjolplobdbaaProg
import Derived.Test.YtclgjolplobdbaaB01
import Derived.Deep.QuietTactic
import Derived.BigQuiet
import Derived.Deep.AppendLies
import Derived.Laws.AppendOwn
import Derived.WalkKit
import Derived.Laws.Append
/-
  SpoilWords of the kit writes over the words of a row of the call's own, and nothing else.
-/
namespace Go.Proofs.Ytclgjolplobdbaa
open Go.RowKit
set_option maxRecDepth 10000

theorem spoil_nil (a : Option Addr) (cap : Nat) (w : World) :
    Calls Try.prog 8 #[.slice a 0 cap] w fun e w' => e = .returned (.tuple #[]) ∧ w = w' := by
  go_enter Try.func8, Try.ntmps8
  go_wp2
  refine wp_loop_rounds 1 ?_
  rw [rounds_succ]
  go_wp2
  go_end0
  exact ⟨rfl, rfl⟩

set_option maxHeartbeats 400000 in
theorem spoil_keep (g n cap B : Nat) (zs : List Int) (w : World) (hown : w.ownsRow B 23 1 (.slice (some ⟨g, 0, none⟩) n cap) n (zs.map (Value.int .u32))) (hl : zs.length = n) (hn : 4 * n ≤ 140737488351232) :
    Calls Try.prog 8 #[.slice (some ⟨g, 0, none⟩) n cap] w fun e w' => e = .returned (.tuple #[]) ∧ w.grownBy w' (some g) ∧ ∃ cs : List Int, cs.length = n ∧ w'.ownsRow B 23 1 (.slice (some ⟨g, 0, none⟩) n cap) n (cs.map (Value.int .u32)) := by
  go_enter Try.func8, Try.ntmps8
  go_wp2
  go_loopw [2] (fun i wr => ∃ (k : Nat) (cs : List Int), k ≤ n ∧ i = .int .i64 k ∧ cs.length = n ∧ wr.ownsRow B 23 1 (.slice (some ⟨g, 0, none⟩) n cap) n (cs.map (Value.int .u32)) ∧ w.grownBy wr (some g))
    (fun i _ => n - (intOf i).toNat)
  case atStart => exact ⟨0, zs, Nat.zero_le _, rfl, hl, hown, World.grownBy.refl _ _⟩
  case round =>
    obtain ⟨k, cs, hk, rfl, hcl, hownr, hgr⟩ := hrel
    have HCL : Hid (cs.length = n) := hcl
    clear hcl hown hl
    by_cases hlt : k < n
    · have hd : wr.cell? ⟨g, k, none⟩ = some (.int .u32 (nth cs k)) := by
        obtain ⟨b, off, e1, _, hc⟩ := View.ofRow hownr HCL.out k (by rw [HCL.out]; exact hlt)
        simp at e1
        obtain ⟨rfl, rfl⟩ := e1
        rw [Nat.zero_add] at hc
        exact hc
      have hf : wr.frozen? ⟨g, k, none⟩ = false := hownr.frozenAt _
      have hs := hownr.stored k (.int .u32 1515870810)
      rw [← List.map_set] at hs
      obtain ⟨hs1, hs2⟩ := hs
      generalize nth cs k = x at hd
      clear hownr
      go_wp2
      go_roundw
      case rel => exact ⟨k + 1, cs.set k 1515870810, by omega, by go_num, by rw [List.length_set]; exact HCL.out, hs1, hgr.trans hs2⟩
      case measure => simp [intOf]; omega
    · go_wp2
      go_end0
      exact ⟨rfl, hgr, cs, HCL.out, hownr⟩

theorem spoil_some (g n cap B : Nat) (zs : List Int) (w : World) (hown : w.ownsRow B 23 1 (.slice (some ⟨g, 0, none⟩) n cap) n (zs.map (Value.int .u32))) (hl : zs.length = n) (hn : 4 * n ≤ 140737488351232) :
    Calls Try.prog 8 #[.slice (some ⟨g, 0, none⟩) n cap] w fun e w' => e = .returned (.tuple #[]) ∧ w.grownBy w' (some g) :=
  (spoil_keep g n cap B zs w hown hl hn).mono fun _ _ h => ⟨h.1, h.2.1⟩

/-- Of any row of the call's own. -/
theorem spoil_own (v : Value) (n B : Nat) (zs : List Int) (w : World) (hown : w.ownsRow B 23 1 v n (zs.map (Value.int .u32))) (hl : zs.length = n) (hn : 4 * n ≤ 140737488351232) :
    Calls Try.prog 8 #[v] w fun e w' => e = .returned (.tuple #[]) ∧ w.grownBy w' v.ownBlock ∧ ∃ cs : List Int, cs.length = n ∧ w'.ownsRow B 23 1 v n (cs.map (Value.int .u32)) := by
  have hown0 := hown
  rcases hown0.2 with ⟨rfl, rfl⟩ | ⟨g, c, cur, rfl, _⟩
  · refine (spoil_nil none 0 w).mono ?_
    rintro e w' ⟨he, rfl⟩
    exact ⟨he, World.grownBy.refl _ _, zs, hl, hown⟩
  · exact (spoil_keep g n c B zs w hown hl hn).mono fun _ _ h => h

end Go.Proofs.Ytclgjolplobdbaa

/-
  apart of the laws of layer 2 answers true of instructions each of which lies in memory of its own, and are the wanted ones; what was there ahead of them stays.
-/
namespace Go.Proofs.Ytclgjolplobdbaa
open Go.RowKit

theorem Apart.info : (Try.prog.info? 23).map (fun i => (i.zero, i.size, i.bytes)) = some (some (.int .u32 0), 1, 4) := by kernel_rfl

/-- The instructions from the k-th on lie each in memory of its own, from block lo on; the row lies elsewhere. -/
def OwnR (w : World) (lo : Nat) (a : Option Addr) (k : Nat) (rs : List (Int × List Int)) : Prop :=
  ∀ j, k ≤ j → j < rs.length → ∃ b off aj cj nj, a = some ⟨b, off, none⟩ ∧ lo ≤ b ∧ b < w.heap.size ∧ w.cell? ⟨b, off + j * 2, none⟩ = some (.int .u16 (nthR rs j).1) ∧ w.cell? ⟨b, off + j * 2 + 1, none⟩ = some (.slice aj nj cj) ∧ (nthR rs j).2.length = nj ∧
    w.ownsRow lo 23 1 (.slice aj nj cj) nj ((nthR rs j).2.map (Value.int .u32)) ∧ Value.ownBlock (.slice aj nj cj) ≠ some b ∧
    ∀ i, k ≤ i → i < rs.length → i ≠ j → ∀ ai ci ni g, w.cell? ⟨b, off + i * 2 + 1, none⟩ = some (.slice ai ni ci) → Value.ownBlock (.slice ai ni ci) = some g → Value.ownBlock (.slice aj nj cj) ≠ some g

theorem own_grown {w w' : World} {B e size n : Nat} {v : Value} {xs : List Value} {ob : Option Nat} (h : w.ownsRow B e size v n xs) (hg : w.grownBy w' ob) (hne : ∀ g, ob = some g → v.ownBlock ≠ some g) : w'.ownsRow B e size v n xs := by
  refine ⟨h.1, ?_⟩
  rcases h.2 with hn | ⟨g, cap, cur, rfl, hb, hgg, rest⟩
  · exact .inl hn
  · exact .inr ⟨g, cap, cur, rfl, hb, by rw [hg.block g (Array.getElem?_eq_some_iff.1 hgg).1 (fun e => hne g e.symm rfl)]; exact hgg, rest⟩

/-- What is written in one instruction's words leaves the later ones. -/
theorem OwnR.next {w w' : World} {lo k b off : Nat} {a : Option Addr} {rs : List (Int × List Int)} {ak : Option Addr} {nk ck : Nat} (h : OwnR w lo a k rs) (ha : a = some ⟨b, off, none⟩) (hk : k < rs.length) (hc : w.cell? ⟨b, off + k * 2 + 1, none⟩ = some (.slice ak nk ck)) (hg : w.grownBy w' (Value.ownBlock (.slice ak nk ck))) : OwnR w' lo a (k + 1) rs := by
  obtain ⟨b0, off0, ak0, ck0, nk0, e0, _, _, _, hc0, _, _, hnb, _⟩ := h k (Nat.le_refl _) hk
  rw [ha] at e0
  simp at e0
  obtain ⟨rfl, rfl⟩ := e0
  rw [hc] at hc0
  simp at hc0
  obtain ⟨rfl, rfl, rfl⟩ := hc0
  have cell : ∀ o, w'.cell? ⟨b, o, none⟩ = w.cell? ⟨b, o, none⟩ := fun o => World.cell?_of_block (hg.block b (World.block_lt_of_cell? _ _ hc) (fun e => hnb e.symm))
  intro j hj hjl
  obtain ⟨b1, off1, aj, cj, nj, e1, hlo1, hb1, c1, c2, c3, c4, c5, c6⟩ := h j (by omega) hjl
  rw [ha] at e1
  simp at e1
  obtain ⟨rfl, rfl⟩ := e1
  refine ⟨b, off, aj, cj, nj, ha, hlo1, Nat.lt_of_lt_of_le hb1 hg.size, (cell _).trans c1, (cell _).trans c2, c3, own_grown c4 hg (fun g e => c6 k (Nat.le_refl _) hk (by omega) ak ck nk g hc e), c5, ?_⟩
  intro i hi hil hij ai ci ni g hci
  rw [cell] at hci
  exact c6 i (by omega) hil hij ai ci ni g hci

theorem grown_drew (w : World) (q : Nat) (ob : Option Nat) : w.grownBy (w.drewN q) ob := by
  have h := bel_drewN (Below.refl w.heap.size w) q
  exact ⟨h.os, h.tape, h.output, h.size, fun k hk _ => h.block k hk⟩

/-- An append and what is written in its row: nothing but the old row and new blocks. -/
theorem grown_new {w w1 w2 : World} {ob : Option Nat} {g H : Nat} (h1 : w.grownBy w1 ob) (hat : ob = some g ∨ g = H) (hH : w.heap.size = H) (h2 : w1.grownBy w2 (some g)) : w.grownBy w2 ob :=
  ⟨h2.os.trans h1.os, h2.tape.trans h1.tape, h2.output.trans h1.output, Nat.le_trans h1.size h2.size, fun k hk hne =>
    (h2.block k (Nat.lt_of_lt_of_le hk h1.size) (fun e => by
      cases e
      rcases hat with h | h
      · exact hne h.symm
      · omega)).trans (h1.block k hk hne)⟩

/-- What is written elsewhere leaves them all. -/
theorem OwnR.kept {w w' : World} {lo lo' k : Nat} {a : Option Addr} {rs : List (Int × List Int)} {ob : Option Nat} (h : OwnR w lo a k rs) (hg : w.grownBy w' ob) (hob : ∀ g, ob = some g → g < lo) (hlo : lo' ≤ lo) : OwnR w' lo' a k rs := by
  intro j hj hjl
  obtain ⟨b, off, aj, cj, nj, e1, hlo1, hb1, c1, c2, c3, c4, c5, c6⟩ := h j hj hjl
  have hne : some b ≠ ob := fun e => by have := hob b e.symm; omega
  have cell : ∀ o, w'.cell? ⟨b, o, none⟩ = w.cell? ⟨b, o, none⟩ := fun o => World.cell?_of_block (hg.block b hb1 hne)
  have c4' := own_grown c4 hg (fun g e e2 => by have := (c4.lt g e2).1; have := hob g e; omega)
  refine ⟨b, off, aj, cj, nj, e1, Nat.le_trans hlo hlo1, Nat.lt_of_lt_of_le hb1 hg.size, (cell _).trans c1, (cell _).trans c2, c3, ⟨c4'.1, ?_⟩, c5, fun i hi hil hij ai ci ni g hci => by rw [cell] at hci; exact c6 i hi hil hij ai ci ni g hci⟩
  rcases c4'.2 with h0 | ⟨g, cap, cur, e, hb, rest⟩
  · exact .inl h0
  · exact .inr ⟨g, cap, cur, e, Nat.le_trans hlo hb, rest⟩
theorem OwnR.below {w w' : World} {lo k : Nat} {a : Option Addr} {rs : List (Int × List Int)} (h : OwnR w lo a k rs) (hb : Below w.heap.size w w') : OwnR w' lo a k rs :=
  h.kept (ob := none) ⟨hb.os, hb.tape, hb.output, hb.size, fun k hk _ => hb.block k hk⟩ (fun g e => by cases e) (Nat.le_refl _)

theorem OwnR.view {w : World} {lo : Nat} {a : Option Addr} {rs : List (Int × List Int)} (h : OwnR w lo a 0 rs) : RawsV w a rs := by
  intro j hj
  obtain ⟨b, off, aj, cj, nj, e, _, hb, c1, c2, c3, c4, _⟩ := h j (Nat.zero_le _) hj
  refine ⟨b, off, aj, cj, nj, e, hb, c1, c2, c3, View.ofOwn c4 c3, ?_⟩
  rcases c4.2 with ⟨e1, e2⟩ | ⟨g, c', cur, e1, _, _, e4, _⟩
  · omega
  · cases e1; exact e4

end Go.Proofs.Ytclgjolplobdbaa

/-
  Rows of memory that lie apart from one another.
-/
namespace Go.Proofs.Ytclgjolplobdbaa
open Go.RowKit
set_option linter.unusedVariables false
set_option linter.unusedSimpArgs false
set_option maxRecDepth 10000

structure RowX where
  T : Nat
  size : Nat
  v : Value
  n : Nat
  xs : List Value
def RowX.own (r : RowX) (w : World) (lo : Nat) : Prop := w.ownsRow lo r.T r.size r.v r.n r.xs
/-- Rows, each in memory of its own. -/
structure RowsX {ι : Type} (w : World) (lo : Nat) (In : ι → Prop) (R : ι → RowX) : Prop where
  own : ∀ q, In q → (R q).own w lo
  apart : ∀ q q', In q → In q' → q ≠ q' → ∀ g, (R q).v.ownBlock = some g → (R q').v.ownBlock ≠ some g
theorem RowsX.kept {ι : Type} {w w' : World} {lo : Nat} {In : ι → Prop} {R : ι → RowX} {ob : Option Nat} (h : RowsX w lo In R) (hg : w.grownBy w' ob) (hob : ∀ g, ob = some g → g < lo) : RowsX w' lo In R :=
  ⟨fun q hq => own_grown (h.own q hq) hg (fun g e e2 => by have := (World.ownsRow.lt (h.own q hq) g e2).1; have := hob g e; omega), h.apart⟩
theorem RowsX.put {ι : Type} {w w' : World} {lo : Nat} {In : ι → Prop} {R R' : ι → RowX} (h : RowsX w lo In R) (i : ι) (hi : In i) (hg : w.grownBy w' (R i).v.ownBlock) (hnew : (R' i).own w' lo) (hv : (R' i).v.ownBlock = (R i).v.ownBlock ∨ ∀ g, (R' i).v.ownBlock = some g → w.heap.size ≤ g) (hs : ∀ q, In q → q ≠ i → R' q = R q) : RowsX w' lo In R' := by
  constructor
  · intro q hq
    by_cases e : q = i
    · rw [e]; exact hnew
    · rw [hs q hq e]
      exact own_grown (h.own q hq) hg (fun g eg => h.apart i q hi hq (fun e2 => e e2.symm) g eg)
  · intro q q' hq hq' hne g e1 e2
    by_cases eq : q = i
    · subst eq
      have hq'i : q' ≠ q := fun e => hne e.symm
      rw [hs q' hq' hq'i] at e2
      rcases hv with hv | hv
      · rw [hv] at e1; exact h.apart q q' hq hq' hne g e1 e2
      · have := hv g e1; have := (World.ownsRow.lt (h.own q' hq') g e2).2; omega
    · rw [hs q hq eq] at e1
      by_cases eq' : q' = i
      · subst eq'
        rcases hv with hv | hv
        · rw [hv] at e2; exact h.apart q q' hq hq' hne g e1 e2
        · have := hv g e2; have := (World.ownsRow.lt (h.own q hq) g e1).2; omega
      · rw [hs q' hq' eq'] at e2
        exact h.apart q q' hq hq' hne g e1 e2
theorem RowsX.grow {ι : Type} {w : World} {lo : Nat} {In In' : ι → Prop} {R R' : ι → RowX} (h : RowsX w lo In R) (hin : ∀ q, In' q → In q ∨ ((R' q).v = .slice none 0 0 ∧ (R' q).n = 0 ∧ (R' q).xs = [])) (hs : ∀ q, In q → R' q = R q) : RowsX w lo In' R' := by
  constructor
  · intro q hq
    rcases hin q hq with h1 | ⟨h1, h2, h3⟩
    · rw [hs q h1]; exact h.own q h1
    · unfold RowX.own; rw [h1, h2, h3]; exact World.ownsRow_nil _ _ _ _
  · intro q q' hq hq' hne g e1 e2
    rcases hin q hq with h1 | ⟨h1, _, _⟩
    · rcases hin q' hq' with k1 | ⟨k1, _, _⟩
      · rw [hs q h1] at e1; rw [hs q' k1] at e2; exact h.apart q q' h1 k1 hne g e1 e2
      · rw [k1] at e2; cases e2
    · rw [h1] at e1; cases e1

/-- A cell of an own row is written. -/
theorem own_setAt {w : World} {lo e size n g cap : Nat} {xs : List Value} (h : w.ownsRow lo e size (.slice (some ⟨g, 0, none⟩) n cap) n xs) (i : Nat) (u : Value) : (w.setCell ⟨g, i, none⟩ u).ownsRow lo e size (.slice (some ⟨g, 0, none⟩) n cap) n (xs.set i u) := by
  refine ⟨by rw [List.length_set]; exact h.1, .inr ?_⟩
  rcases h.2 with ⟨h1, _⟩ | ⟨g', cap', cur, e1, h2, h3, h4, h5, h6, h7⟩
  · cases h1
  · cases e1
    refine ⟨g, cap, cur.setIfInBounds i u, rfl, h2, ?_, h4, h5, by simp [h6], ?_⟩
    · simp [World.setCell, Array.getElem?_modify, h3]
    · rw [Array.toList_setIfInBounds, List.take_set, h7]
theorem own_form {w : World} {lo e size n : Nat} {v : Value} {xs : List Value} (h : w.ownsRow lo e size v n xs) (hn : 0 < n) : ∃ g cap, v = .slice (some ⟨g, 0, none⟩) n cap ∧ lo ≤ g ∧ g < w.heap.size ∧ n ≤ cap ∧ (∀ i, w.frozen? ⟨g, i, none⟩ = false) ∧ (∀ i, i < n * size → w.cell? ⟨g, i, none⟩ = xs[i]?) := by
  rcases h.2 with ⟨_, h1⟩ | ⟨g, cap, cur, e1, h2, h3, h4, h5, h6, h7⟩
  · omega
  · refine ⟨g, cap, e1, h2, (Array.getElem?_eq_some_iff.1 h3).1, h4, fun i => by simp [World.frozen?, h3], fun i hi => ?_⟩
    rw [show w.cell? ⟨g, i, none⟩ = cur[i]? by simp [World.cell?, h3], ← h7, List.getElem?_take, if_pos hi]
    simp
theorem grown_cell (w : World) (g i : Nat) (u : Value) : w.grownBy (w.setCell ⟨g, i, none⟩ u) (some g) := grown_setCell w g i u
theorem own_block {w : World} {lo e size n g cap : Nat} {xs : List Value} : Value.ownBlock (.slice (some ⟨g, 0, none⟩) n cap) = some g := rfl

end Go.Proofs.Ytclgjolplobdbaa

/-
  Plain mathematics of graphs: edges each once, edges from behind, a walk in the depth.
-/
namespace Go.Proofs.Ytclgjolplobdbaa
open Go.RowKit
set_option linter.unusedVariables false
set_option linter.unusedSimpArgs false

/-- A row of a list of rows. -/
def rowN (N : List (List Int)) (j : Nat) : List Int := N.getD j []
theorem rowN_out (N : List (List Int)) (j : Nat) (h : N.length ≤ j) : rowN N j = [] := by simp [rowN, List.getD, List.getElem?_eq_none h]
theorem rowN_mem (N : List (List Int)) (j : Nat) (h : j < N.length) : rowN N j ∈ N := by
  have : rowN N j = N[j] := by simp [rowN, List.getD, h]
  rw [this]; exact List.getElem_mem h
theorem rowN_map (N : List (List Int)) (f : List Int → List Int) (j : Nat) (h : j < N.length) : rowN (N.map f) j = f (rowN N j) := by
  simp [rowN, List.getD, h]
theorem rowN_take (N : List (List Int)) (k j : Nat) (h : j < k) : rowN (N.take k) j = rowN N j := by
  simp [rowN, List.getD, List.getElem?_take, h]
theorem rowN_app (N : List (List Int)) (l : List Int) (j : Nat) (h : j < N.length) : rowN (N ++ [l]) j = rowN N j := by
  simp [rowN, List.getD, List.getElem?_append_left h]
theorem rowN_last (N : List (List Int)) (l : List Int) : rowN (N ++ [l]) N.length = l := by simp [rowN, List.getD]
theorem rowN_set (N : List (List Int)) (l : List Int) (i j : Nat) (h : i < N.length) : rowN (N.set i l) j = if j = i then l else rowN N j := by
  by_cases e : j = i
  · subst e; simp [rowN, List.getD, h]
  · have e' : ¬ i = j := fun x => e x.symm
    simp [rowN, List.getD, List.getElem?_set, e, e']
theorem rows_ext {N M : List (List Int)} (h : N.length = M.length) (h2 : ∀ j, j < N.length → rowN N j = rowN M j) : N = M := by
  apply List.ext_getElem h
  intro j h1 h3
  have := h2 j h1
  simpa [rowN, List.getD, h1, h3] using this

/-- Every number of every row lies in 0 to n - 1. -/
def Edges (n : Nat) (N : List (List Int)) : Prop := ∀ j x, x ∈ rowN N j → 0 ≤ x ∧ x < n

/-- A number more, if it is not there yet. -/
def addN (acc : List Int) (x : Int) : List Int := if x ∈ acc then acc else acc ++ [x]
/-- Numbers, each where it stands first. -/
def onceF (l : List Int) : List Int := l.foldl addN []
theorem once_snoc (l : List Int) (k : Nat) (h : k < l.length) : onceF (l.take (k + 1)) = addN (onceF (l.take k)) (nth l k) := by
  unfold onceF; rw [take_snoc l k h, List.foldl_append]; rfl
theorem addN_mem (acc : List Int) (x y : Int) : y ∈ addN acc x ↔ y ∈ acc ∨ y = x := by
  unfold addN; split
  · rename_i h; exact ⟨.inl, fun h' => by rcases h' with h' | rfl <;> assumption⟩
  · simp
theorem addN_nodup (acc : List Int) (x : Int) (h : acc.Nodup) : (addN acc x).Nodup := by
  unfold addN; split
  · exact h
  · rename_i hx
    rw [List.nodup_append]
    exact ⟨h, by simp, fun a ha b hb e => by simp at hb; subst hb; subst e; exact hx ha⟩
theorem addN_len (acc : List Int) (x : Int) : (addN acc x).length ≤ acc.length + 1 := by
  unfold addN; split <;> simp
theorem once_fold (l acc : List Int) (h : acc.Nodup) : (l.foldl addN acc).Nodup ∧ (∀ y, y ∈ l.foldl addN acc ↔ y ∈ acc ∨ y ∈ l) ∧ (l.foldl addN acc).length ≤ acc.length + l.length := by
  induction l generalizing acc with
  | nil => simp [h]
  | cons x l ih =>
    obtain ⟨h1, h2, h3⟩ := ih (addN acc x) (addN_nodup acc x h)
    refine ⟨h1, fun y => ?_, ?_⟩
    · rw [List.foldl_cons, h2, addN_mem, List.mem_cons, or_assoc]
    · have := addN_len acc x
      rw [List.foldl_cons, List.length_cons]; omega
theorem once_nodup (l : List Int) : (onceF l).Nodup := (once_fold l [] (by simp)).1
theorem once_mem (l : List Int) (y : Int) : y ∈ onceF l ↔ y ∈ l := by
  have := (once_fold l [] (by simp)).2.1 y
  simpa [onceF] using this
theorem once_len (l : List Int) : (onceF l).length ≤ l.length := by
  have := (once_fold l [] (by simp)).2.2
  simpa [onceF] using this

/-- The rows of a graph while they are made. -/
def madeQ (N : List (List Int)) (k : Nat) : List (List Int) := (List.range N.length).map fun j => if j < k then onceF (rowN N j) else []
theorem madeQ_len (N : List (List Int)) (k : Nat) : (madeQ N k).length = N.length := by simp [madeQ]
theorem madeQ_row (N : List (List Int)) (k j : Nat) (h : j < N.length) : rowN (madeQ N k) j = if j < k then onceF (rowN N j) else [] := by
  show (madeQ N k).getD j [] = _
  unfold madeQ
  rw [List.getD_eq_getElem?_getD, List.getElem?_map, List.getElem?_range h]
  rfl
theorem madeQ_zero (N : List (List Int)) : madeQ N 0 = List.replicate N.length [] := by
  apply rows_ext (by simp [madeQ])
  intro j hj
  rw [madeQ_len] at hj
  rw [madeQ_row N 0 j hj]
  simp [rowN, List.getD, List.getElem?_replicate, hj]
theorem madeQ_set (N : List (List Int)) (k : Nat) (h : k < N.length) : (madeQ N k).set k (onceF (rowN N k)) = madeQ N (k + 1) := by
  apply rows_ext (by simp [madeQ])
  intro j hj
  rw [List.length_set, madeQ_len] at hj
  rw [rowN_set _ _ _ _ (by rw [madeQ_len]; exact h), madeQ_row N k j hj, madeQ_row N (k + 1) j hj]
  by_cases e : j = k
  · subst e; simp
  · rw [if_neg e]
    by_cases e2 : j < k
    · rw [if_pos e2, if_pos (by omega)]
    · rw [if_neg e2, if_neg (by omega)]
theorem madeQ_whole (N : List (List Int)) : madeQ N N.length = N.map onceF := by
  apply rows_ext (by simp [madeQ])
  intro j hj
  rw [madeQ_len] at hj
  rw [madeQ_row _ _ _ hj, if_pos hj, rowN_map N onceF j hj]
/-- Numbers of 0 to n - 1, each once, are at most n. -/
theorem nodup_lenG : ∀ (n : Nat) (l : List Int), l.Nodup → (∀ x ∈ l, 0 ≤ x ∧ x < n) → l.length ≤ n
  | 0, l, _, h => by
    cases l with
    | nil => simp
    | cons x l => have := h x (by simp); omega
  | n + 1, l, hd, h => by
    by_cases hm : (n : Int) ∈ l
    · have h1 := nodup_lenG n (l.erase (n : Int)) (hd.erase _) (fun x hx => by
        have hx' := (List.Nodup.mem_erase_iff hd).1 hx
        have := h x hx'.2
        have := hx'.1
        omega)
      rw [List.length_erase_of_mem hm] at h1
      omega
    · have := nodup_lenG n l hd (fun x hx => by
        have := h x hx
        have : x ≠ (n : Int) := fun e => hm (e ▸ hx)
        omega)
      omega

/-- The nodes ahead of a node, of the first k. -/
def aheadT (N : List (List Int)) (k : Nat) (j : Int) : List Int := ((List.range k).filter fun i => j ∈ rowN N i).map Int.ofNat
theorem aheadT_succ (N : List (List Int)) (k : Nat) (j : Int) : aheadT N (k + 1) j = aheadT N k j ++ (if j ∈ rowN N k then [(k : Int)] else []) := by
  unfold aheadT
  rw [List.range_succ, List.filter_append, List.map_append]
  congr 1
  by_cases h : j ∈ rowN N k <;> simp [h]
def aheadF (N : List (List Int)) (j : Int) : List Int := aheadT N N.length j
def aheadR (N : List (List Int)) : List (List Int) := (List.range N.length).map fun (j : Nat) => aheadF N (j : Int)
theorem aheadR_len (N : List (List Int)) : (aheadR N).length = N.length := by simp [aheadR]
theorem aheadR_row (N : List (List Int)) (j : Nat) (h : j < N.length) : rowN (aheadR N) j = aheadF N (j : Int) := by simp [rowN, aheadR, List.getD, h]
theorem aheadT_mem (N : List (List Int)) (k : Nat) (j x : Int) : x ∈ aheadT N k j ↔ ∃ i : Nat, i < k ∧ j ∈ rowN N i ∧ x = (i : Int) := by
  unfold aheadT
  simp only [List.mem_map, List.mem_filter, List.mem_range, decide_eq_true_eq]
  constructor
  · rintro ⟨i, ⟨h1, h2⟩, rfl⟩; exact ⟨i, h1, h2, rfl⟩
  · rintro ⟨i, h1, h2, rfl⟩; exact ⟨i, ⟨h1, h2⟩, rfl⟩
theorem aheadT_len (N : List (List Int)) (k : Nat) (j : Int) : (aheadT N k j).length ≤ k := by
  unfold aheadT
  rw [List.length_map]
  exact Nat.le_trans (List.length_filter_le _ _) (by simp)

/-- The rows while they are built: all of the first k nodes, and q edges of the next one. -/
def aheadQ (N : List (List Int)) (k q : Nat) : List (List Int) := (List.range N.length).map fun (j : Nat) => aheadT N k (j : Int) ++ (if (j : Int) ∈ (rowN N k).take q then [(k : Int)] else [])
theorem aheadQ_len (N : List (List Int)) (k q : Nat) : (aheadQ N k q).length = N.length := by simp [aheadQ]
theorem aheadQ_row (N : List (List Int)) (k q j : Nat) (h : j < N.length) : rowN (aheadQ N k q) j = aheadT N k (j : Int) ++ (if (j : Int) ∈ (rowN N k).take q then [(k : Int)] else []) := by
  show (aheadQ N k q).getD j [] = _
  unfold aheadQ
  rw [List.getD_eq_getElem?_getD, List.getElem?_map, List.getElem?_range h]
  rfl
theorem aheadQ_start (N : List (List Int)) : aheadQ N 0 0 = List.replicate N.length [] := by
  apply rows_ext (by simp [aheadQ])
  intro j hj
  rw [aheadQ_len] at hj
  rw [aheadQ_row N 0 0 j hj]
  simp [aheadT, rowN, List.getD, List.getElem?_replicate, hj]
theorem aheadQ_end (N : List (List Int)) (k : Nat) : aheadQ N k (rowN N k).length = aheadQ N (k + 1) 0 := by
  apply rows_ext (by simp [aheadQ])
  intro j hj
  rw [aheadQ_len] at hj
  rw [aheadQ_row _ _ _ j hj, aheadQ_row _ _ _ j hj, aheadT_succ, List.take_length]
  simp
theorem aheadQ_whole (N : List (List Int)) : aheadQ N N.length 0 = aheadR N := by
  apply rows_ext (by simp [aheadQ, aheadR])
  intro j hj
  rw [aheadQ_len] at hj
  rw [aheadQ_row _ _ _ j hj, aheadR_row N j hj]
  simp [aheadF]
theorem aheadQ_step (N : List (List Int)) (k q t : Nat) (hd : (rowN N k).Nodup) (hq : q < (rowN N k).length) (ht : nth (rowN N k) q = (t : Int)) (htl : t < N.length) :
    (aheadQ N k q).set t (rowN (aheadQ N k q) t ++ [(k : Int)]) = aheadQ N k (q + 1) := by
  apply rows_ext (by simp [aheadQ])
  intro j hj
  rw [List.length_set, aheadQ_len] at hj
  rw [rowN_set _ _ _ _ (by rw [aheadQ_len]; exact htl), aheadQ_row N k q j hj, aheadQ_row N k q t htl, aheadQ_row N k (q + 1) j hj, take_snoc _ _ hq, ht]
  have hnot : ¬ (t : Int) ∈ (rowN N k).take q := by
    have h1 := take_snoc (rowN N k) q hq
    have h2 : ((rowN N k).take (q + 1)).Nodup := hd.sublist (List.take_sublist _ _)
    rw [h1, ht, List.nodup_append] at h2
    exact fun h => h2.2.2 _ h _ (by simp) rfl
  by_cases e : j = t
  · subst e
    simp [hnot]
  · have e2 : ¬ (j : Int) = (t : Int) := by omega
    simp [e, e2, aheadQ_row _ _ _ j hj]

/-! ### the walk -/
abbrev WalkS := List Int × List Int
def stepD (f : Int → WalkS → WalkS) (s : WalkS) (j : Int) : WalkS := if j ∈ s.1 then s else f j s
def dfs (N : List (List Int)) : Nat → Int → WalkS → WalkS
  | 0, _, s => s
  | f + 1, i, s => (((rowN N i.toNat).foldl (stepD (dfs N f)) (s.1 ++ [i], s.2)).1, ((rowN N i.toNat).foldl (stepD (dfs N f)) (s.1 ++ [i], s.2)).2 ++ [i])
/-- What the walk came to behind the first k edges of a node. -/
def dfsK (N : List (List Int)) (f : Nat) (i : Int) (s : WalkS) (k : Nat) : WalkS := ((rowN N i.toNat).take k).foldl (stepD (dfs N f)) (s.1 ++ [i], s.2)
theorem dfsK_zero (N : List (List Int)) (f : Nat) (i : Int) (s : WalkS) : dfsK N f i s 0 = (s.1 ++ [i], s.2) := rfl
theorem dfsK_succ (N : List (List Int)) (f : Nat) (i : Int) (s : WalkS) (k : Nat) (h : k < (rowN N i.toNat).length) : dfsK N f i s (k + 1) = stepD (dfs N f) (dfsK N f i s k) (nth (rowN N i.toNat) k) := by
  unfold dfsK; rw [take_snoc _ _ h, List.foldl_append]; rfl
theorem dfs_succ (N : List (List Int)) (f : Nat) (i : Int) (s : WalkS) : dfs N (f + 1) i s = ((dfsK N f i s (rowN N i.toNat).length).1, (dfsK N f i s (rowN N i.toNat).length).2 ++ [i]) := by
  unfold dfsK; rw [List.take_length]; rfl

/-- Nodes, each once. -/
def GoodC (n : Nat) (c : List Int) : Prop := c.Nodup ∧ ∀ x ∈ c, 0 ≤ x ∧ x < n
theorem GoodC.len {n : Nat} {c : List Int} (h : GoodC n c) : c.length ≤ n := nodup_lenG n c h.1 h.2
theorem GoodC.snoc {n : Nat} {c : List Int} (h : GoodC n c) {i : Int} (hi : i ∉ c) (h0 : 0 ≤ i) (h1 : i < n) : GoodC n (c ++ [i]) := by
  refine ⟨?_, fun x hx => ?_⟩
  · rw [List.nodup_append]
    exact ⟨h.1, by simp, fun a ha b hb e => by simp at hb; subst hb; subst e; exact hi ha⟩
  · rcases List.mem_append.1 hx with hx | hx
    · exact h.2 x hx
    · simp at hx; subst hx; exact ⟨h0, h1⟩

/-- A way leads from a node to another one. -/
def Ways (N : List (List Int)) : Nat → Int → Int → Prop
  | 0, i, j => i = j
  | k + 1, i, j => ∃ m, Ways N k i m ∧ j ∈ rowN N m.toNat
def Reach (N : List (List Int)) (i j : Int) : Prop := ∃ k, Ways N k i j
theorem Reach.refl (N : List (List Int)) (i : Int) : Reach N i i := ⟨0, rfl⟩
theorem Reach.step {N : List (List Int)} {i m j : Int} (h : Reach N i m) (hj : j ∈ rowN N m.toNat) : Reach N i j := by
  obtain ⟨k, hk⟩ := h; exact ⟨k + 1, m, hk, hj⟩
theorem Reach.trans {N : List (List Int)} {i m j : Int} (h : Reach N i m) (h2 : Reach N m j) : Reach N i j := by
  obtain ⟨k, hk⟩ := h2
  induction k generalizing j with
  | zero => cases hk; exact h
  | succ k ih => obtain ⟨q, hq, hj⟩ := hk; exact (ih hq).step hj
theorem Reach.closed {N : List (List Int)} {c : List Int} {i j : Int} (h : Reach N i j) (hi : i ∈ c) (hc : ∀ x ∈ c, ∀ y ∈ rowN N x.toNat, y ∈ c) : j ∈ c := by
  obtain ⟨k, hk⟩ := h
  induction k generalizing j with
  | zero => cases hk; exact hi
  | succ k ih => obtain ⟨q, hq, hj⟩ := hk; exact hc q (ih hq) j hj

/-- What a piece of the walk comes to: the nodes e more, left in the order d. -/
structure Seg (N : List (List Int)) (n : Nat) (s t : WalkS) (e d : List Int) : Prop where
  came : t.1 = s.1 ++ e
  left : t.2 = s.2 ++ d
  perm : d.Perm e
  good : GoodC n t.1
  closed : ∀ x ∈ e, ∀ y ∈ rowN N x.toNat, y ∈ t.1

theorem seg_nil {N : List (List Int)} {n : Nat} {s : WalkS} (h : GoodC n s.1) : Seg N n s s [] [] :=
  ⟨by simp, by simp, List.Perm.refl _, h, fun x hx => by simp at hx⟩
theorem Seg.trans {N : List (List Int)} {n : Nat} {s t u : WalkS} {e d e' d' : List Int} (h : Seg N n s t e d) (k : Seg N n t u e' d') : Seg N n s u (e ++ e') (d ++ d') := by
  refine ⟨by rw [k.came, h.came, List.append_assoc], by rw [k.left, h.left, List.append_assoc], h.perm.append k.perm, k.good, fun x hx y hy => ?_⟩
  rcases List.mem_append.1 hx with hx | hx
  · rw [k.came]; exact List.mem_append.2 (.inl (h.closed x hx y hy))
  · exact k.closed x hx y hy

/-- Each node but the first js is led to from one ahead of it. -/
def LedBy (N : List (List Int)) (js e : List Int) : Prop := ∀ p x q, e = p ++ x :: q → (∃ y ∈ p, x ∈ rowN N y.toNat) ∨ x ∈ js
theorem LedBy.mono {N : List (List Int)} {js js' e : List Int} (h : LedBy N js e) (hs : ∀ x ∈ js, x ∈ js') : LedBy N js' e := fun p x q he => by
  rcases h p x q he with h | h
  · exact .inl h
  · exact .inr (hs x h)
theorem LedBy.app {N : List (List Int)} {js e e' : List Int} (h : LedBy N js e) (h' : LedBy N js e') : LedBy N js (e ++ e') := fun p x q he => by
  rcases List.append_eq_append_iff.1 he with ⟨a, h1, h2⟩ | ⟨a, h1, h2⟩
  · rcases h' a x q h2 with ⟨y, hy, hx⟩ | hx
    · exact .inl ⟨y, by rw [h1]; exact List.mem_append.2 (.inr hy), hx⟩
    · exact .inr hx
  · cases a with
    | nil =>
      simp at h2
      rcases h' [] x q (by rw [← h2]; rfl) with ⟨y, hy, hx⟩ | hx
      · simp at hy
      · exact .inr hx
    | cons z a =>
      simp at h2
      obtain ⟨rfl, h2⟩ := h2
      exact h p x a h1

theorem walk_all (N : List (List Int)) (n : Nat) (hE : Edges n N) : ∀ f,
    (∀ (js : List Int) (s : WalkS), GoodC n s.1 → (∀ x ∈ js, (0 : Int) ≤ x ∧ x < (n : Int)) → n - s.1.length ≤ f → ∃ e d, Seg N n s (js.foldl (stepD (dfs N f)) s) e d ∧ (∀ y ∈ js, y ∈ (js.foldl (stepD (dfs N f)) s).1) ∧ LedBy N js e) ∧
    (∀ (i : Int) (s : WalkS), GoodC n s.1 → i ∉ s.1 → 0 ≤ i → i < (n : Int) → n - s.1.length ≤ f → ∃ e d, Seg N n s (dfs N f i s) (i :: e) d ∧ LedBy N [i] (i :: e)) := by
  intro f
  induction f with
  | zero =>
    have full : ∀ s : WalkS, GoodC n s.1 → n - s.1.length ≤ 0 → ∀ x : Int, 0 ≤ x → x < (n : Int) → x ∈ s.1 := by
      intro s hg hl x h0 h1
      refine Decidable.byContradiction fun hx => ?_
      have := (hg.snoc hx h0 h1).len
      simp at this; omega
    constructor
    · intro js s hg hj hl
      have e : js.foldl (stepD (dfs N 0)) s = s := by
        clear hl
        induction js with
        | nil => rfl
        | cons x js ih =>
          have hx : stepD (dfs N 0) s x = s := by unfold stepD; split <;> rfl
          rw [List.foldl_cons, hx]
          exact ih (fun y hy => hj y (List.mem_cons_of_mem _ hy))
      rw [e]
      exact ⟨[], [], seg_nil hg, fun y hy => full s hg hl y (hj y hy).1 (hj y hy).2, fun p x q h => by cases p <;> simp at h⟩
    · intro i s hg hi h0 h1 hl
      exact absurd (full s hg hl i h0 h1) hi
  | succ f ih =>
    have call : ∀ (i : Int) (s : WalkS), GoodC n s.1 → i ∉ s.1 → 0 ≤ i → i < (n : Int) → n - s.1.length ≤ f + 1 → ∃ e d, Seg N n s (dfs N (f + 1) i s) (i :: e) d ∧ LedBy N [i] (i :: e) := by
      intro i s hg hi h0 h1 hl
      obtain ⟨e, d, hs, hin, hled⟩ := ih.1 (rowN N i.toNat) (s.1 ++ [i], s.2) (hg.snoc hi h0 h1) (fun x hx => hE _ x hx) (by simp; omega)
      generalize ht : (rowN N i.toNat).foldl (stepD (dfs N f)) (s.1 ++ [i], s.2) = t at hs hin
      have e1 : dfs N (f + 1) i s = (t.1, t.2 ++ [i]) := by rw [← ht]; rfl
      rw [e1]
      refine ⟨e, d ++ [i], ⟨by rw [hs.came]; simp, by rw [hs.left]; simp, (hs.perm.append_right [i]).trans (by simp), hs.good, fun x hx y hy => ?_⟩, fun p x q he => ?_⟩
      · rcases List.mem_cons.1 hx with rfl | hx
        · exact hin y hy
        · exact hs.closed x hx y hy
      · cases p with
        | nil => simp at he; exact .inr (by simp [he.1])
        | cons z p =>
          simp at he
          obtain ⟨rfl, he⟩ := he
          rcases hled p x q he with ⟨y, hy, hx⟩ | hx
          · exact .inl ⟨y, List.mem_cons_of_mem _ hy, hx⟩
          · exact .inl ⟨i, by simp, hx⟩
    refine ⟨?_, call⟩
    intro js
    induction js with
    | nil => intro s hg _ _; exact ⟨[], [], seg_nil hg, fun y hy => by simp at hy, fun p x q h => by cases p <;> simp at h⟩
    | cons j js ihj =>
      intro s hg hj hl
      have hj' : ∀ x ∈ js, (0 : Int) ≤ x ∧ x < (n : Int) := fun y hy => hj y (List.mem_cons_of_mem _ hy)
      rw [List.foldl_cons]
      by_cases hm : j ∈ s.1
      · have e1 : stepD (dfs N (f + 1)) s j = s := if_pos hm
        rw [e1]
        obtain ⟨e, d, hs, hin, hled⟩ := ihj s hg hj' hl
        refine ⟨e, d, hs, fun y hy => ?_, hled.mono fun x hx => List.mem_cons_of_mem _ hx⟩
        rcases List.mem_cons.1 hy with rfl | hy
        · rw [hs.came]; exact List.mem_append.2 (.inl hm)
        · exact hin y hy
      · have e1 : stepD (dfs N (f + 1)) s j = dfs N (f + 1) j s := if_neg hm
        rw [e1]
        obtain ⟨e, d, hs, hled⟩ := call j s hg hm (hj j (by simp)).1 (hj j (by simp)).2 hl
        obtain ⟨e', d', hs', hin', hled'⟩ := ihj (dfs N (f + 1) j s) hs.good hj' (by rw [hs.came]; simp; omega)
        refine ⟨_, _, hs.trans hs', fun y hy => ?_, LedBy.app (hled.mono fun x hx => ?_) (hled'.mono fun x hx => List.mem_cons_of_mem _ hx)⟩
        · rcases List.mem_cons.1 hy with rfl | hy
          · rw [hs'.came, hs.came]; simp
          · exact hin' y hy
        · simp at hx; simp [hx]

/-- What lies behind in a led row is reached. -/
theorem led_reach {N : List (List Int)} {i : Int} {e : List Int} (h : LedBy N [i] e) : ∀ x ∈ e, Reach N i x := by
  have key : ∀ k p x q, p.length ≤ k → e = p ++ x :: q → Reach N i x := by
    intro k
    induction k with
    | zero =>
      intro p x q hp he
      have : p = [] := List.eq_nil_of_length_eq_zero (by omega)
      subst this
      rcases h [] x q he with ⟨y, hy, _⟩ | hx
      · simp at hy
      · simp at hx; subst hx; exact Reach.refl _ _
    | succ k ih =>
      intro p x q hp he
      rcases h p x q he with ⟨y, hy, hx⟩ | hx
      · obtain ⟨a, b, rfl⟩ := List.append_of_mem hy
        have := ih a y (b ++ x :: q) (by simp at hp; omega) (by rw [he]; simp)
        exact this.step hx
      · simp at hx; subst hx; exact Reach.refl _ _
  intro x hx
  obtain ⟨p, q, rfl⟩ := List.append_of_mem hx
  exact key p.length p x q (Nat.le_refl _) rfl

/-- The whole walk, from the node 0. -/
def walkF (N : List (List Int)) : WalkS := dfs N N.length 0 ([], [])
structure GrWalkQ (N : List (List Int)) (t : WalkS) : Prop where
  good : GoodC N.length t.1
  perm : t.2.Perm t.1
  mem : ∀ x, x ∈ t.1 ↔ Reach N 0 x
  first : ∃ e, t.1 = 0 :: e
  closed : ∀ x ∈ t.1, ∀ y ∈ rowN N x.toNat, y ∈ t.1
  led : LedBy N [0] t.1
theorem walkF_all (N : List (List Int)) (hE : Edges N.length N) (h0 : 0 < N.length) : GrWalkQ N (walkF N) := by
  obtain ⟨e, d, hs, hl⟩ := (walk_all N N.length hE N.length).2 0 ([], []) ⟨by simp, fun x hx => by simp at hx⟩ (by simp) (by omega) (by omega) (by simp)
  have hc : (walkF N).1 = 0 :: e := by have := hs.came; simpa [walkF] using this
  have hd : (walkF N).2 = d := by have := hs.left; simpa [walkF] using this
  have hcl : ∀ x ∈ (walkF N).1, ∀ y ∈ rowN N x.toNat, y ∈ (walkF N).1 := fun x hx y hy => hs.closed x (by rw [← hc]; exact hx) y hy
  refine ⟨hs.good, by rw [hd, hc]; exact hs.perm, fun x => ⟨fun hx => ?_, fun hx => ?_⟩, ⟨e, hc⟩, hcl, by rw [hc]; exact hl⟩
  · rw [hc] at hx; exact led_reach hl x hx
  · exact hx.closed (by rw [hc]; simp) hcl

end Go.Proofs.Ytclgjolplobdbaa

/-
  Words appended to a row of words whose room is full: where they come to lie. No condition but the bounds that each lemma names.
-/
namespace Go.Proofs.Ytclgjolplobdbaa
open Go.RowKit

/-- An append whose run is known. -/
theorem append_run {P : Program} (w : World) {ops : Array Oper} {rest : List Oper} {o : Oper} {a : Act} {Q : Exit → Act → World → Prop}
    (hg : o.guard = none) (s x : Operand) (t : TypeId) (hop : o.op = Op.call { callee := Callee.builtin Builtin.append, args := #[s, x], argTypes := #[t, t] })
    (v xv v' : Value) (w' : World) (hs : a.eval s = v) (hx : a.eval x = xv) (hrun : ∀ ty, (Builtin.append_ #[t, t] ty #[v, xv]).run P w = .ok v' w') (hK : wpList P ops Q rest (a.put o.dst v') w') :
    wpList P ops Q (o :: rest) a w := by
  refine wpList_plain hg fun K hK' => ?_
  unfold Oper.wp
  simp [execOp, hop, resolve, invoke, builtin, hs, hx, hrun, Result.andThen]
  exact hK' _ _ hK

/-- Nothing is appended. -/
theorem run_append_nothing {P : Program} (w : World) (t ty e : TypeId) (i : TypeInfo) (ht : P.underlying t = some (.slice e)) (hi : P.info? e = some i) (b : Option Addr) (n cap : Nat) (hn : n ≤ cap) (a : Option Addr) (c : Nat) :
    (Builtin.append_ #[t, t] ty #[.slice b n cap, .slice a 0 c]).run P w = .ok (.slice b n cap) w := by
  cases a with
  | none => cases b <;> simp [Builtin.append_, run_underlying ht, sizeOf, typeInfo, hi, Builtin.lenOf, hn, Builtin.firstCells, storeCells]
  | some a =>
    have hl : (loadCells a 0).run P w = .ok #[] w := run_loadCells_list (P := P) w a [] (fun j v hj => by simp at hj)
    cases b <;> simp [Builtin.append_, run_underlying ht, sizeOf, typeInfo, hi, Builtin.lenOf, hn, Builtin.firstCells, hl, storeCells]

theorem cap_fits (m n : Nat) (h : 0 < n) (hm : 4 * m ≤ 1048576) (hn : 4 * n ≤ 140737488351232) : Builtin.nextslicecap (m + n) m * 4 ≤ 281474976710656 := by
  have := nextslicecap_le (need := m + n) (old := m) (by omega)
  by_cases hbig : m + n > 2 * m
  · have : Builtin.nextslicecap (m + n) m = m + n := by unfold Builtin.nextslicecap; rw [if_pos hbig]
    rw [this]; omega
  · omega

/-- What a new block holds can be read. -/
theorem view_new {k : IntKind} {w : World} {arr : Array Value} {e : TypeId} {zs : List Int} (h : ∀ j, j < zs.length → arr[j]? = some (.int k (nth zs j))) : View k (w.alloc (.cells arr e)) (some ⟨w.heap.size, 0, none⟩) zs := by
  intro j hj
  refine ⟨w.heap.size, 0, rfl, by simp, ?_⟩
  rw [Nat.zero_add, World.cell?_alloc_new, h j hj]

/-- Words appended to a row that is full. -/
theorem append_full {P : Program} (w : World) (t e : TypeId) (i : TypeInfo) (z : Value) (ht : P.underlying t = some (.slice e)) (hi : P.info? e = some i) (hz : i.zero = some z) (hsz : i.size = 1) (hby : i.bytes = 4)
    (ax ay : Option Addr) (m n c : Nat) (xs ys : List Int) (hx : View .u32 w ax xs) (hy : View .u32 w ay ys) (lx : xs.length = m) (ly : ys.length = n) (h0 : 0 < m) (hm : 4 * m ≤ 1048576) (hn : 4 * n ≤ 140737488351232) :
    ∃ (g cap : Nat) (w' : World), (∀ ty, (Builtin.append_ #[t, t] ty #[.slice ax m m, .slice ay n c]).run P w = .ok (.slice (some ⟨g, 0, none⟩) (m + n) cap) w') ∧ m + n ≤ cap ∧ View .u32 w' (some ⟨g, 0, none⟩) (xs ++ ys) ∧ Below w.heap.size w w' ∨
      n = 0 ∧ ∀ ty, (Builtin.append_ #[t, t] ty #[.slice ax m m, .slice ay n c]).run P w = .ok (.slice ax m m) w := by
  by_cases hz0 : n = 0
  · subst hz0
    exact ⟨0, 0, w, .inr ⟨rfl, fun ty => run_append_nothing w t ty e i ht hi ax m m (Nat.le_refl _) ay c⟩⟩
  · obtain ⟨bx, ox, rfl, _, _⟩ := hx 0 (by omega)
    obtain ⟨b', o', rfl, _, _⟩ := hy 0 (by omega)
    have cellOf : ∀ (zs : List Int) (b o : Nat), View .u32 w (some ⟨b, o, none⟩) zs → ∀ j v, (zs.map (Value.int .u32))[j]? = some v → w.cell? ((⟨b, o, none⟩ : Addr).add j) = some v := by
      intro zs b o hv j v hj
      rw [List.getElem?_map] at hj
      have hjl : j < zs.length := by
        rcases Nat.lt_or_ge j zs.length with h | h
        · exact h
        · rw [List.getElem?_eq_none h] at hj; simp at hj
      obtain ⟨b2, o2, e2, _, hc⟩ := hv j hjl
      simp at e2
      obtain ⟨rfl, rfl⟩ := e2
      rw [Addr.add_lit, hc, ← hj, List.getElem?_eq_getElem hjl]
      simp [nth, List.getD, hjl]
    have hfit : Builtin.nextslicecap (m + n) m * i.bytes ≤ 281474976710656 := by rw [hby]; exact cap_fits m n (by omega) hm hn
    refine ⟨w.heap.size, grownCap w (m + n) m e, _, .inl ⟨fun ty => run_append_grow w t ty e i z ht hi hz ⟨bx, ox, none⟩ m m (xs.map (Value.int .u32)) (by rw [List.length_map, lx, hsz]; omega) (cellOf xs bx ox hx)
      ⟨b', o', none⟩ n c (ys.map (Value.int .u32)) (by rw [List.length_map, ly, hsz]; omega) (cellOf ys b' o' hy) (by omega) (by omega) hfit, grownCap_ge w (m + n) m e, ?_, ?_⟩⟩
    · have := view_new (k := .u32) (w := w.drew) (arr := (xs.map (Value.int .u32)).toArray ++ (ys.map (Value.int .u32)).toArray ++ Builtin.zeroCells z.cells (grownCap w (m + n) m e - (m + n))) (e := e) (zs := xs ++ ys) ?_
      · exact this
      · intro j hj
        have hj' : j < (xs ++ ys).length := hj
        have e1 : nth (xs ++ ys) j = (xs ++ ys)[j] := by simp only [nth, List.getD, List.getElem?_eq_getElem hj']; rfl
        rw [e1]
        rw [List.length_append] at hj
        rw [Array.getElem?_append_left (by simpa using hj)]
        rw [List.append_toArray]
        rw [List.getElem?_toArray, ← List.map_append, List.getElem?_map, List.getElem?_eq_getElem hj']
        rfl
    · exact (Below.refl _ w).drew.alloc (by exact Nat.le_refl _) _

end Go.Proofs.Ytclgjolplobdbaa

/-
  A list that can be read, appended to a row of one's own: where it comes to lie.
-/
namespace Go.Proofs.Ytclgjolplobdbaa
open Go.RowKit
set_option maxRecDepth 10000

theorem wpList_append_view {P : Program} (w : World) {ops : Array Oper} {rest : List Oper} {o : Oper} {a : Act} {Q : Exit → Act → World → Prop} (hgd : o.guard = none) (s x : Operand) (t : TypeId)
    (ho : o.op = .call { callee := .builtin .append, args := #[s, x], argTypes := #[t, t] })
    (base : Nat) (e : TypeId) (i : TypeInfo) (z : Value) (bytes : Nat) (k : IntKind) (ht : P.underlying t = some (.slice e)) (hi : P.info? e = some i) (hz : i.zero = some z)
    (hsize : i.size = 1) (hby : i.bytes = bytes) (hzs : z.cells.size = 1)
    (v : Value) (n : Nat) (xs : List Int) (hs : a.eval s = v) (hown : w.ownsRow base e 1 v n (xs.map (Value.int k)))
    (ad : Option Addr) (m c : Nat) (zs : List Int) (hx : a.eval x = .slice ad m c) (hv : View k w ad zs) (hl : zs.length = m)
    (h63 : n + m ≤ maxLen) (hbytes : (n + m) * bytes ≤ 140737488355328) (hbase : base ≤ w.heap.size)
    (h : ∀ v' w', w'.ownsRow base e 1 v' (n + m) ((xs ++ zs).map (Value.int k)) → w.grownBy w' v.ownBlock → wpList P ops Q rest (a.put o.dst v') w') : wpList P ops Q (o :: rest) a w := by
  by_cases h0 : m = 0
  · subst h0
    have hz0 : zs = [] := List.eq_nil_of_length_eq_zero hl
    subst hz0
    obtain ⟨b, n', cap, hve, hle⟩ : ∃ b n' cap, v = .slice b n' cap ∧ n' ≤ cap := by
      rcases hown.2 with ⟨rfl, rfl⟩ | ⟨g, cap, cur, rfl, _, _, hle, _⟩
      · exact ⟨_, _, _, rfl, Nat.le_refl _⟩
      · exact ⟨_, _, _, rfl, hle⟩
    refine append_run w hgd s x t ho v _ v w hs hx (fun ty => ?_) ?_
    · rw [hve]; exact run_append_nothing w t ty e i ht hi b n' cap hle ad c
    · refine h v w ?_ ⟨rfl, rfl, rfl, Nat.le_refl _, fun _ _ _ => rfl⟩
      rw [List.append_nil]; exact hown
  · obtain ⟨b', o', rfl, _, _⟩ := hv 0 (by omega)
    refine wpList_append_own w hgd s x t ho base e i z 1 bytes ht hi hz hsize hby hzs (by omega) v n (xs.map (Value.int k)) hs hown ⟨b', o', none⟩ m c (zs.map (Value.int k)) hx (by rw [List.length_map, hl]; omega) ?_ ?_ h63 hbytes hbase (fun v' w' h2 h3 _ => h v' w' (by rw [List.map_append]; exact h2) h3)
    · intro j u hj
      rw [List.getElem?_map] at hj
      have hjl : j < zs.length := by
        rcases Nat.lt_or_ge j zs.length with h | h
        · exact h
        · rw [List.getElem?_eq_none h] at hj; simp at hj
      obtain ⟨b2, o2, e2, _, hc⟩ := hv j hjl
      simp at e2
      obtain ⟨rfl, rfl⟩ := e2
      rw [Addr.add_lit, hc, ← hj, List.getElem?_eq_getElem hjl]
      simp [nth, List.getD, hjl]
    · intro u hu
      obtain ⟨y, _, rfl⟩ := List.mem_map.1 hu
      rfl

/-- An owned row of numbers can be read. -/
theorem View.ofOwned {k : IntKind} {w : World} {B e n : Nat} {v : Value} {zs : List Int} (h : w.ownsRow B e 1 v n (zs.map (Value.int k))) : ∃ a cap, v = .slice a n cap ∧ View k w a zs ∧ zs.length = n := by
  have hl : zs.length = n := by have := h.1; simpa using this
  have hc := fun g hg => h.cells (g := g) hg
  rcases h.2 with ⟨rfl, rfl⟩ | ⟨g, cap, cur, rfl, _, hg, _⟩
  · exact ⟨none, 0, rfl, fun j hj => by omega, hl⟩
  · refine ⟨some ⟨g, 0, none⟩, cap, rfl, fun j hj => ⟨g, 0, rfl, (Array.getElem?_eq_some_iff.1 hg).1, ?_⟩, hl⟩
    have := hc g rfl j (.int k (nth zs j)) (by simp [nth, List.getD, hj])
    rw [Addr.add_lit] at this
    exact this

theorem own_empty {w : World} {B e g : Nat} (hg : w.heap[g]? = some (.cells #[] e (0, 0))) (hB : B ≤ g) (k : IntKind) : w.ownsRow B e 1 (.slice (some ⟨g, 0, none⟩) 0 0) 0 (([] : List Int).map (Value.int k)) :=
  ⟨rfl, .inr ⟨g, 0, #[], rfl, hB, hg, Nat.le_refl _, Nat.zero_le _, rfl, rfl⟩⟩

end Go.Proofs.Ytclgjolplobdbaa
