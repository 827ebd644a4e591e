/-
  A reader in memory: its two cells lie in one block; what was there before it turns in that block alone. And what a slice of a list is.
-/
import Derived.Test.YtpdjmapmpicgjaaMath3
import Derived.Maps.AppendAt
import Derived.Maps.Range
import Derived.OneCell
namespace Go.Proofs.Ytpdjmapmpicgjaa
open Go.RowKit

/-- W0: the world in which the reader was made; wr: a later one. -/
structure Rd (T : TypeId) (W0 wr : World) (gr : Nat) (v : Value) (p : Nat) : Prop where
  grown : W0.grownBy wr (some gr)
  box : wr.heap[gr]? = some (.cells #[v, .int .i64 (p : Int)] T (0, 0))

theorem cell_of_two {w : World} {g : Nat} {a b : Value} {T : TypeId} (h : w.heap[g]? = some (.cells #[a, b] T (0, 0))) : w.cell? ⟨g, 0, none⟩ = some a ∧ w.cell? ⟨g, 1, none⟩ = some b ∧ w.frozen? ⟨g, 1, none⟩ = false := by
  refine ⟨?_, ?_, ?_⟩ <;> simp [World.cell?, World.frozen?, h]

theorem two_setCell {w : World} {g : Nat} {a b : Value} {T : TypeId} (h : w.heap[g]? = some (.cells #[a, b] T (0, 0))) (u : Value) : (w.setCell ⟨g, 1, none⟩ u).heap[g]? = some (.cells #[a, u] T (0, 0)) := by
  simp [World.setCell, Array.getElem?_modify, h]

theorem grown_setCell (w : World) (g j : Nat) (u : Value) : w.grownBy (w.setCell ⟨g, j, none⟩ u) (some g) :=
  ⟨rfl, rfl, rfl, by simp [World.setCell], fun k _ hne => Below.heap_setCell _ _ _ _ (fun e => hne (by rw [e]))⟩

theorem Rd.set {T : TypeId} {W0 wr : World} {gr : Nat} {v : Value} {p : Nat} (h : Rd T W0 wr gr v p) (q : Nat) (u : Int) (hu : u = (q : Int)) : Rd T W0 (wr.setCell ⟨gr, 1, none⟩ (.int .i64 u)) gr v q := by
  subst hu
  exact ⟨h.grown.trans (grown_setCell wr gr 1 _), two_setCell h.box _⟩

theorem Rd.lt {T : TypeId} {W0 wr : World} {gr : Nat} {v : Value} {p : Nat} (h : Rd T W0 wr gr v p) : gr < wr.heap.size := (Array.getElem?_eq_some_iff.1 h.box).1

/-- Where nothing that is there turns. -/
theorem Rd.below {T : TypeId} {W0 wr w' : World} {gr : Nat} {v : Value} {p : Nat} (h : Rd T W0 wr gr v p) (hb : Below wr.heap.size wr w') : Rd T W0 w' gr v p := by
  refine ⟨⟨hb.os.trans h.grown.os, hb.tape.trans h.grown.tape, hb.output.trans h.grown.output, Nat.le_trans h.grown.size hb.size, fun k hk hne => ?_⟩, by rw [hb.block gr h.lt]; exact h.box⟩
  rw [hb.block k (Nat.lt_of_lt_of_le hk h.grown.size)]
  exact h.grown.block k hk hne

/-- Where a block alone turns that is new since the reader was looked at. -/
theorem Rd.far {T : TypeId} {W0 w' w'' : World} {gr g : Nat} {v : Value} {p : Nat} (h : Rd T W0 w' gr v p) (h0 : W0.heap.size ≤ g) (hg : gr < g) (hgr : w'.grownBy w'' (some g)) : Rd T W0 w'' gr v p := by
  refine ⟨h.grown.andThen hgr (fun j hj => by cases hj; exact .inl h0), ?_⟩
  rw [hgr.block gr h.lt (fun e => by cases e; omega)]
  exact h.box

/-- The reader's words are as they were. -/
theorem Rd.view {T : TypeId} {W0 wr : World} {gr : Nat} {v : Value} {p : Nat} (h : Rd T W0 wr gr v p) {a : Option Addr} {zs : List Int} (hv : View .u32 W0 a zs) (hne : ∀ b off s, a = some ⟨b, off, s⟩ → b ≠ gr) : View .u32 wr a zs := by
  intro j hj
  obtain ⟨b, off, e, hlt, hc⟩ := hv j hj
  refine ⟨b, off, e, Nat.lt_of_lt_of_le hlt h.grown.size, ?_⟩
  rw [← hc]
  exact World.cell?_of_block (w := W0) (h.grown.block b hlt (fun e' => hne b off none e (by cases e'; rfl)))

/-- What is cut off at the front of a list. -/
theorem View.drop {k : IntKind} {w : World} {b off : Nat} {zs : List Int} (h : View k w (some ⟨b, off, none⟩) zs) (p : Nat) : View k w (some ⟨b, off + p, none⟩) (zs.drop p) := by
  intro j hj
  rw [List.length_drop] at hj
  obtain ⟨b', off', e, hb, hc⟩ := h (p + j) (by omega)
  simp at e
  obtain ⟨rfl, rfl⟩ := e
  refine ⟨b, off + p, rfl, hb, ?_⟩
  rw [Nat.add_assoc, hc]
  simp [nth, List.getD]

/-- The address of a slice that is cut at its front. -/
def cutA (a : Option Addr) (cap p : Nat) : Option Addr := if cap = p then a else a.map (·.add p)

theorem View.cut {k : IntKind} {w : World} {a : Option Addr} {cap : Nat} {zs : List Int} (h : View k w a zs) (hcap : zs.length ≤ cap) (p : Nat) : View k w (cutA a cap p) (zs.drop p) := by
  by_cases hp : p < zs.length
  · obtain ⟨b, off, rfl, _, _⟩ := h p hp
    rw [cutA, if_neg (by omega)]
    have := View.drop h p
    rw [Option.map_some, Addr.add_lit]
    exact this
  · rw [List.drop_of_length_le (by omega)]
    exact view_nil

theorem nth_drop (zs : List Int) (p j : Nat) : nth (zs.drop p) j = nth zs (p + j) := by simp [nth, List.getD]
theorem within_drop {m : Int} {zs : List Int} {n : Nat} (h : Within m zs) : Within m (zs.drop n) := fun z hz => h z (List.mem_of_mem_drop hz)

/-- What the call owns, nil or not, can be read. -/
theorem View.ofOwn {k : IntKind} {w : World} {B e n cap : Nat} {a : Option Addr} {zs : List Int} (h : w.ownsRow B e 1 (.slice a n cap) n (zs.map (Value.int k))) (hl : zs.length = n) : View k w a zs := by
  rcases h.2 with ⟨_, hn⟩ | ⟨g, cap', cur, hv, _⟩
  · have : zs = [] := List.eq_nil_of_length_eq_zero (by rw [hl]; simpa using hn)
    subst this; exact view_nil
  · cases hv; exact View.ofRow h hl

end Go.Proofs.Ytpdjmapmpicgjaa
