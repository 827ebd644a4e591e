/-
  What a reader's calls At, Left and take do: what they answer, and where the reader stands then.
-/
import Derived.WalkSpells
import Derived.Deep.QuietTactic
import Derived.BigQuiet
import Derived.Test.YtmmpejhmmgkfkabRdr
import Derived.Test.YtmmpejhmmgkfkabSlicesClone
import Derived.Test.YtmmpejhmmgkfkabWordsTextSame
namespace Go.Proofs.Ytmmpejhmmgkfkab
open Go.RowKit

/-- A reader of the words zs, of which p were taken. -/
structure Rdr (W0 w : World) (gr ga n cw p : Nat) (zs : List Int) : Prop where
  rd : Rd 54 W0 w gr (.slice (some ⟨ga, 0, none⟩) n cw) p
  view : View .u32 W0 (some ⟨ga, 0, none⟩) zs
  apart : ga ≠ gr
  len : zs.length = n
  le : p ≤ n
  room : n ≤ cw
  small : 4 * n ≤ 140737488351232
  within : Within 4294967296 zs

theorem Rdr.words {W0 w : World} {gr ga n cw p : Nat} {zs : List Int} (h : Rdr W0 w gr ga n cw p zs) : View .u32 w (some ⟨ga, 0, none⟩) zs :=
  h.rd.view h.view (fun b off s e => by simp at e; have := h.apart; omega)

theorem Rdr.below {W0 w w' : World} {gr ga n cw p : Nat} {zs : List Int} (h : Rdr W0 w gr ga n cw p zs) (hb : Below w.heap.size w w') : Rdr W0 w' gr ga n cw p zs :=
  ⟨h.rd.below hb, h.view, h.apart, h.len, h.le, h.room, h.small, h.within⟩

theorem Rdr.set {W0 w : World} {gr ga n cw p : Nat} {zs : List Int} (h : Rdr W0 w gr ga n cw p zs) (q : Nat) (u : Int) (hu : u = (q : Int)) (hq : q ≤ n) : Rdr W0 (w.setCell ⟨gr, 1, none⟩ (.int .i64 u)) gr ga n cw q zs :=
  ⟨h.rd.set q u hu, h.view, h.apart, h.len, hq, h.room, h.small, h.within⟩

theorem Rdr.drew {W0 w : World} {gr ga n cw p : Nat} {zs : List Int} (h : Rdr W0 w gr ga n cw p zs) (q : Nat) : Rdr W0 (w.drewN q) gr ga n cw p zs := h.below (bel_drewN (Below.refl _ _) q)

theorem at_any {W0 w : World} {gr ga n cw p : Nat} {zs : List Int} (h : Rdr W0 w gr ga n cw p zs) :
    Calls Try.prog 12 #[.pointer (some ⟨gr, 0, none⟩)] w fun e w' => e = .returned (.int .i64 p) ∧ w = w' := by
  obtain ⟨c0, c1, f1⟩ := cell_of_two h.rd.box
  clear h
  go_enter Try.func12, Try.ntmps12
  go_wp2
  go_ret
  exact ⟨rfl, rfl⟩

theorem left_any {W0 w : World} {gr ga n cw p : Nat} {zs : List Int} (h : Rdr W0 w gr ga n cw p zs) :
    Calls Try.prog 13 #[.pointer (some ⟨gr, 0, none⟩)] w fun e w' => e = .returned (.int .i64 ((n : Int) - p)) ∧ ∃ q, w' = w.drewN q := by
  obtain ⟨c0, c1, f1⟩ := cell_of_two h.rd.box
  have hle := h.le
  have hsm := h.small
  clear h
  go_enter Try.func13, Try.ntmps13
  go_wp2
  go_quiet (fail)
  go_wp2
  go_ret
  exact ⟨rfl, _, rfl⟩

set_option maxHeartbeats 1000000 in
/-- A word is taken. -/
theorem take_word {W0 w : World} {gr ga n cw p : Nat} {zs : List Int} (m : Int) (h : Rdr W0 w gr ga n cw p zs) (hp : p < n) :
    Calls Try.prog 24 #[.pointer (some ⟨gr, 0, none⟩), .int .i64 0, .int .i64 m] w fun e w' => ∃ c, e = .returned (.tuple #[.slice (some ⟨ga, p, none⟩) 1 c, .string ⟨#[]⟩, .int .i64 0]) ∧ Rdr W0 w' gr ga n cw (p + 1) zs := by
  obtain ⟨c0, c1, f1⟩ := cell_of_two h.rd.box
  have hle := h.le
  have hsm := h.small
  have hrm := h.room
  have hne : ¬ cw = p := by omega
  have hp1 : (1 : Int) ≤ (n : Int) - (p : Int) := by omega
  have hp2 : ¬ ((n : Int) - (p : Int) < 1) := by omega
  have hcap : (1 : Int) ≤ ((cw - p : Nat) : Int) := by omega
  have hpn : (p : Int) ≤ (n : Int) := by omega
  have H : Hid (Rdr W0 w gr ga n cw p zs) := h
  clear h
  go_enter Try.func24, Try.ntmps24
  go_wp2
  go_quiet (fail)
  go_wp2
  go_ret3
  exact ⟨_, rfl, (H.out.drew _).set (p + 1) _ (by omega) hp⟩

set_option maxHeartbeats 1000000 in
/-- No word is left. -/
theorem take_end {W0 w : World} {gr ga n cw : Nat} {zs : List Int} (m : Int) (h : Rdr W0 w gr ga n cw n zs) :
    Calls Try.prog 24 #[.pointer (some ⟨gr, 0, none⟩), .int .i64 0, .int .i64 m] w fun e w' => e = .returned (.tuple #[.slice none 0 0, .string ⟨#[]⟩, .int .i64 14]) ∧ ∃ q, w' = w.drewN q := by
  obtain ⟨c0, c1, f1⟩ := cell_of_two h.rd.box
  have hsm := h.small
  have hrm := h.room
  obtain ⟨sa, hsa⟩ : ∃ sa, (if cw = n then some (⟨ga, 0, none⟩ : Addr) else some ⟨ga, n, none⟩) = sa := ⟨_, rfl⟩
  have hnn : n - n = 0 := Nat.sub_self n
  clear h
  go_enter Try.func24, Try.ntmps24
  go_wp2
  go_quiet (fail)
  go_wp2
  go_ret3
  exact ⟨rfl, _, rfl⟩

set_option maxHeartbeats 1000000 in
/-- Fewer than none are asked for. -/
theorem take_neg {W0 w : World} {gr ga n cw p : Nat} {zs : List Int} (m : Int) (h : Rdr W0 w gr ga n cw p zs) (hm : m < 0) :
    Calls Try.prog 24 #[.pointer (some ⟨gr, 0, none⟩), .int .i64 2, .int .i64 m] w fun e w' => e = .returned (.tuple #[.slice none 0 0, .string ⟨#[]⟩, .int .i64 2]) ∧ ∃ q, w' = w.drewN q := by
  obtain ⟨c0, c1, f1⟩ := cell_of_two h.rd.box
  have hle := h.le
  have hsm := h.small
  have hrm := h.room
  obtain ⟨sa, hsa⟩ : ∃ sa, (if cw = p then some (⟨ga, 0, none⟩ : Addr) else some ⟨ga, p, none⟩) = sa := ⟨_, rfl⟩
  have hpn : (p : Int) ≤ (n : Int) := by omega
  clear h
  go_enter Try.func24, Try.ntmps24
  go_wp2
  go_quiet (fail)
  go_wp2
  go_ret3
  exact ⟨rfl, _, rfl⟩

set_option maxHeartbeats 1000000 in
/-- More than are left are asked for. -/
theorem take_over {W0 w : World} {gr ga n cw p : Nat} {zs : List Int} (m : Int) (h : Rdr W0 w gr ga n cw p zs) (hm : (n : Int) - p < m) :
    Calls Try.prog 24 #[.pointer (some ⟨gr, 0, none⟩), .int .i64 2, .int .i64 m] w fun e w' => e = .returned (.tuple #[.slice none 0 0, .string ⟨#[]⟩, .int .i64 14]) ∧ ∃ q, w' = w.drewN q := by
  obtain ⟨c0, c1, f1⟩ := cell_of_two h.rd.box
  have hle := h.le
  have hsm := h.small
  have hrm := h.room
  obtain ⟨sa, hsa⟩ : ∃ sa, (if cw = p then some (⟨ga, 0, none⟩ : Addr) else some ⟨ga, p, none⟩) = sa := ⟨_, rfl⟩
  have hpn : (p : Int) ≤ (n : Int) := by omega
  have hm' : ((n - p : Nat) : Int) < m := by omega
  have hm0 : ¬ m < 0 := by omega
  clear h
  go_enter Try.func24, Try.ntmps24
  go_wp2
  go_quiet (fail)
  go_wp2
  go_ret3
  exact ⟨rfl, _, rfl⟩

set_option maxHeartbeats 1000000 in
/-- So many are taken. -/
theorem take_some {W0 w : World} {gr ga n cw p m : Nat} {zs : List Int} (h : Rdr W0 w gr ga n cw p zs) (hm : p + m ≤ n) :
    Calls Try.prog 24 #[.pointer (some ⟨gr, 0, none⟩), .int .i64 2, .int .i64 m] w fun e w' => ∃ sa c, e = .returned (.tuple #[.slice (some sa) m c, .string ⟨#[]⟩, .int .i64 0]) ∧ View .u32 w' (some sa) ((zs.drop p).take m) ∧ Rdr W0 w' gr ga n cw (p + m) zs ∧ w.grownBy w' (some gr) := by
  obtain ⟨c0, c1, f1⟩ := cell_of_two h.rd.box
  have hle := h.le
  have hsm := h.small
  have hrm := h.room
  have HLZ : Hid (zs.length = n) := h.len
  obtain ⟨sa, hsa, hsav⟩ : ∃ sa, (if cw = p then some (⟨ga, 0, none⟩ : Addr) else some ⟨ga, p, none⟩) = some sa ∧ Hid (∀ wx, View .u32 wx (some ⟨ga, 0, none⟩) zs → View .u32 wx (some sa) (zs.drop p)) := by
    by_cases e : cw = p
    · refine ⟨⟨ga, 0, none⟩, by rw [if_pos e], fun wx _ => ?_⟩
      rw [List.drop_of_length_le (by rw [HLZ.out]; omega)]
      exact view_nil
    · refine ⟨⟨ga, p, none⟩, by rw [if_neg e], fun wx hv => ?_⟩
      have := View.drop hv p
      rw [Nat.zero_add] at this
      exact this
  have hpn : (p : Int) ≤ (n : Int) := by omega
  have hm' : ¬ ((n - p : Nat) : Int) < (m : Int) := by omega
  have hm0 : ¬ (m : Int) < 0 := by omega
  have hmc : (m : Int) ≤ ((cw - p : Nat) : Int) := by omega
  have H : Hid (Rdr W0 w gr ga n cw p zs) := h
  clear h
  go_enter Try.func24, Try.ntmps24
  go_wp2
  go_quiet (fail)
  go_wp2
  go_ret3
  have hR := (H.out.drew nq).set (p + m) ((p : Int) + (m : Int)) (by omega) hm
  exact ⟨sa, _, rfl, (hsav.out _ hR.words).take m, hR, (show w.grownBy (w.drewN nq) (some gr) from ⟨rfl, rfl, rfl, Nat.le_refl _, fun _ _ _ => rfl⟩).trans (grown_setCell (w.drewN nq) gr 1 _)⟩

end Go.Proofs.Ytmmpejhmmgkfkab
