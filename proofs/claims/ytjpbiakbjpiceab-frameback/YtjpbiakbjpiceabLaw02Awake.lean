/-
  awake of the laws of layer 2 answers true, where Read and Write answer as is asked of them.
-/
import Derived.WalkSpells
import Derived.Deep.QuietTactic
import Derived.BigQuiet
import Derived.Test.YtjpbiakbjpiceabFrame
import Derived.Test.YtjpbiakbjpiceabLaw02Raws
namespace Go.Proofs.Ytjpbiakbjpiceab
open Go.RowKit

/-- The words of a head of the bound 7. -/
def seven : List Int := [119734787, 65536, 0, 7, 0]
theorem seven_view (w : World) : View .u32 (w.alloc (.cells #[.int .u32 119734787, .int .u32 65536, .int .u32 0, .int .u32 7, .int .u32 0] 24)) (some ⟨w.heap.size, 0, none⟩) seven := by
  intro j hj
  refine ⟨w.heap.size, 0, rfl, by simp, ?_⟩
  rw [Nat.zero_add, World.cell?_alloc_new]
  match j, hj with
  | 0, _ => rfl
  | 1, _ => rfl
  | 2, _ => rfl
  | 3, _ => rfl
  | 4, _ => rfl
theorem seven_within : Within 4294967296 seven := by
  intro z hz
  simp [seven] at hz
  omega
theorem seven_read : readE seven = (0, 0) ∧ readL seven = [] ∧ readAt seven 2 = 0 ∧ readAt seven 3 = 7 := by decide
theorem seven_write : writeE 7 [] = (0, 0) ∧ writeL 0 7 [] = seven := by decide

set_option maxRecDepth 100000 in
set_option maxHeartbeats 4000000 in
theorem awake_true (hR : ReadC 15) (hW : WriteC 18) (w : World) :
    Calls Try.prog 17 #[] w fun e w' => e = .returned (.bool true) ∧ Below w.heap.size w w' := by
  have h1 := head_any 7 w
  have h2 := hR (some ⟨w.heap.size, 0, none⟩) 5 5 seven _ (seven_view w) rfl seven_within (by omega) (by omega)
  rw [seven_read.1, seven_read.2.1, seven_read.2.2.1, seven_read.2.2.2] at h2
  have h3 := fun w' => hW 0 7 none 0 0 [] w' (by omega) (by omega) (by omega) (by omega) rawsV_nil (fun j hj => by simp at hj) rfl (by omega) (by omega)
  rw [seven_write.1, seven_write.2] at h3
  have h4 := fun w' => head_any 7 w'
  have s0 : seven.length = 5 := rfl
  clear hR hW
  go_enter Try.func17, Try.ntmps17
  go_wp2_with fail
  refine h1.mono ?_
  rintro e w1 ⟨rfl, rfl⟩
  go_wp2_with fail
  refine h2.mono ?_
  rintro e w2 ⟨hb2, ax, cx, m, rfl, hm, _⟩
  go_wp2_with fail
  refine (h3 _).mono ?_
  rintro e w3 ⟨hb3, ay, cy, m3, rfl, hm3, hown3⟩
  rw [show ([] : List (Int × List Int)).length = 0 from rfl] at hm
  subst hm
  rw [s0] at hm3
  subst hm3
  have s3 := hb3.size
  simp only [World.size_alloc] at s3
  have e1 := cell_of_two ((Below.heap_alloc w3 (.cells #[.int .i64 0, .int .i64 0] 53) _ (by omega)).trans ((hb3.block w2.heap.size (by simp; omega)).trans ((Below.heap_alloc _ _ _ (by simp)).trans (heap_alloc_new w2 (.cells #[.int .u32 0, .int .u32 7] 49)))))
  have e2 := cell_of_two ((Below.heap_alloc w3 (.cells #[.int .i64 0, .int .i64 0] 53) _ (by omega)).trans ((hb3.block (w2.heap.size + 1) (by simp)).trans (by simpa using heap_alloc_new (w2.alloc (.cells #[.int .u32 0, .int .u32 7] 49)) (.cells #[.int .i64 0, .int .i64 0] 53))))
  obtain ⟨f1, f2, _⟩ := e1
  obtain ⟨f3, f4, _⟩ := e2
  have hz : ((0 : Nat) : Int) = 0 := rfl
  have hbw : Below w.heap.size w (w3.alloc (.cells #[.int .i64 0, .int .i64 0] 53)) := by
    have b1 := (Below.refl w.heap.size w).alloc (Nat.le_refl _) (.cells #[.int .u32 119734787, .int .u32 65536, .int .u32 0, .int .u32 7, .int .u32 0] 24)
    have t2 := hb2.size
    simp only [World.size_alloc] at t2
    have b2 := b1.trans (hb2.mono (by simp))
    have b3 := (b2.alloc (by omega) (.cells #[.int .u32 0, .int .u32 7] 49)).alloc (by simp; omega) (.cells #[.int .i64 0, .int .i64 0] 53)
    exact (b3.trans (hb3.mono (by simp; omega))).alloc (by omega) _
  have hv3 := (View.ofOwn hown3 s0).below ((Below.refl _ w3).alloc (Nat.le_refl _) (.cells #[.int .i64 0, .int .i64 0] 53))
  have HB : Hid _ := hbw
  clear hb2 hb3 hown3 hbw h1 h2 h3
  go_wp2_with fail
  refine (h4 _).mono ?_
  rintro e w4 ⟨rfl, rfl⟩
  have hB4 := HB.out.alloc HB.out.size (.cells #[.int .u32 119734787, .int .u32 65536, .int .u32 0, .int .u32 7, .int .u32 0] 24)
  have hK5 := words_true ay (some ⟨(w3.alloc (.cells #[.int .i64 0, .int .i64 0] 53)).heap.size, 0, none⟩) 5 cy 5 seven _ (hv3.below ((Below.refl _ _).alloc (Nat.le_refl _) _)) (seven_view (w3.alloc (.cells #[.int .i64 0, .int .i64 0] 53))) rfl (by omega)
  rw [World.size_alloc] at hK5 ⊢
  have HB4 : Hid _ := hB4
  clear hB4 HB hv3 h4 f1 f2 f3 f4
  generalize (w3.alloc (.cells #[.int .i64 0, .int .i64 0] 53)).alloc (.cells #[.int .u32 119734787, .int .u32 65536, .int .u32 0, .int .u32 7, .int .u32 0] 24) = w4 at hK5 HB4 ⊢
  go_wp2_with fail
  refine hK5.mono ?_
  rintro e w5 ⟨rfl, q, rfl⟩
  clear hK5
  go_wp2
  go_ret
  exact ⟨rfl, bel_drewN HB4.out q⟩

end Go.Proofs.Ytjpbiakbjpiceab
