/-
  What Places of the document's answer returns, of at most 1048576 words: the places of the instructions, in new memory.
-/
import Derived.WalkSpells
import Derived.Test.YtckpijgnkkjfkaaMathF
import Derived.Test.YtckpijgnkkjfkaaRdr
import Derived.Test.YtckpijgnkkjfkaaRef02Ends
namespace Go.Proofs.Ytckpijgnkkjfkaa
open Go.RowKit

theorem RefPlaces.info : (Try.prog.info? 3).map (fun i => (i.zero, i.size, i.bytes)) = some (some (.int .i64 0), 1, 8) := by kernel_rfl

theorem own_shape {w : World} {B e n : Nat} {v : Value} {xs : List Value} (h : w.ownsRow B e 1 v n xs) : ∃ a c, v = .slice a n c := by
  rcases h.2 with ⟨rfl, rfl⟩ | ⟨g, c, cur, rfl, _⟩
  · exact ⟨none, 0, rfl⟩
  · exact ⟨_, c, rfl⟩

set_option maxHeartbeats 1000000 in
theorem refPlaces_any (a : Option Addr) (n cap : Nat) (zs : List Int) (w : World) (ha : View .u32 w a zs) (hl : zs.length = n) (hw : Within 4294967296 zs) (hn : n ≤ 1048576) :
    Calls Try.prog 22 #[.slice a n cap] w fun e w' => ∃ ax cx m, e = .returned (.slice ax m cx) ∧ (rest zs 5).length = m ∧ w'.ownsRow w.heap.size 3 1 (.slice ax m cx) m ((natI (rest zs 5)).map (Value.int .i64)) ∧ Below w.heap.size w w' := by
  obtain ⟨i0, hi, hz0, hz1, hz2⟩ := info_parts RefPlaces.info
  have HL : Hid (zs.length = n) := hl
  have hY : ∀ wx p, Below w.heap.size w wx → p < n → badB zs p = false → Calls Try.prog 29 #[.slice a n cap, .int .i64 (p : Nat)] wx fun e w' => e = .returned (.tuple #[.int .i64 ((p + cntN zs p : Nat) : Int), .bool true]) ∧ wx = w' :=
    fun wx p hb hp h => refEnds_yes a n cap zs wx p (ha.below hb) hl hw (by omega) hp h
  have hN : ∀ wx p, Below w.heap.size w wx → p < n → badB zs p = true → Calls Try.prog 29 #[.slice a n cap, .int .i64 (p : Nat)] wx fun e w' => e = .returned (.tuple #[.int .i64 0, .bool false]) ∧ wx = w' :=
    fun wx p hb hp h => refEnds_no a n cap zs wx p (ha.below hb) hl hw (by omega) hp h
  clear ha hl hw
  go_enter Try.func22, Try.ntmps22
  go_wp2
  go_loopw [3, 4] (fun v i wr => ∃ (p : Nat) (out : List Nat), i = .int .i64 p ∧ out ++ rest zs p = rest zs 5 ∧ wr.ownsRow w.heap.size 3 1 v out.length ((natI out).map (Value.int .i64)) ∧ Below w.heap.size w wr)
    (fun _ i _ => n - (intOf i).toNat)
  case atStart => exact ⟨5, [], rfl, rfl, World.ownsRow_nil _ _ _ _, Below.refl _ _⟩
  case round =>
    obtain ⟨p, out, rfl, hout, hown, hnx⟩ := hrel
    obtain ⟨ax, cx, rfl⟩ := own_shape hown
    have HO : Hid (out ++ rest zs p = rest zs 5) := hout
    have hol : out.length ≤ n := by
      have h1 := rest_len zs 5
      have h2 : out.length ≤ (rest zs 5).length := by rw [← hout]; simp
      rw [HL.out] at h1; omega
    clear hout
    by_cases hlt : p < n
    · cases hb : badB zs p with
      | false =>
        have hE := hY wr p hnx hlt hb
        have HG : Hid (rest zs p = p :: rest zs (p + cntN zs p)) := rest_go zs p (by rw [HL.out]; exact hlt) hb
        have hcp := cnt_pos hb
        have hcf := cnt_fits hb
        rw [HL.out] at hcf
        have hsz := hnx.size
        clear hb hY hN
        generalize cntN zs p = c at *
        go_wp2_with (first | (go_at_call 29; refine hE.mono ?_; rintro e w' ⟨rfl, rfl⟩) | (at_builtin; refine wpList_append_own _ rfl (.tmp 20) (.tmp 22) 44 rfl w.heap.size 3 i0 (.int .i64 0) 1 8 Try.underlying44 hi hz0 hz1 hz2 rfl (by decide) _ _ _ rfl (hown.alloc _) ⟨wr.heap.size, 0, none⟩ 1 1 [.int .i64 (p : Int)] rfl rfl (cell_one_new _ _ _) (ints_oneCell .i64 [(p : Int)]) (by unfold maxLen; omega) (by omega) (by simp; omega) ?_))
        intro v' w1 hown1 hgrow1 _
        obtain ⟨ax1, cx1, rfl⟩ := own_shape hown1
        have hb1 : Below w.heap.size w w1 := (hnx.alloc hsz _).grown hgrow1 (by simp; omega) (fun k hk => by
          rcases hown.2 with ⟨h1, _⟩ | ⟨g, c', cur, h1, h2, _⟩
          · rw [h1] at hk; simp [Value.ownBlock] at hk
          · rw [h1] at hk; simp [Value.ownBlock] at hk; omega)
        have HW : Hid (w1.ownsRow w.heap.size 3 1 (.slice ax1 (out.length + 1) cx1) (out ++ [p]).length ((natI (out ++ [p])).map (Value.int .i64))) := by
          have e1 : (natI (out ++ [p])).map (Value.int .i64) = (natI out).map (Value.int .i64) ++ [.int .i64 (p : Int)] := by simp [natI]
          rw [e1]
          have e2 : (out ++ [p]).length = out.length + 1 := by simp
          rw [e2]; exact hown1
        clear hown1 hgrow1 hown hE
        go_wp2
        go_roundw
        case rel => exact ⟨p + c, out ++ [p], by go_num, by rw [List.append_assoc, List.singleton_append, ← HG.out]; exact HO.out, HW.out, hb1⟩
        case measure => simp [intOf]; omega
      | true =>
        have hE := hN wr p hnx hlt hb
        have HG : Hid (rest zs p = []) := rest_bad zs p (by rw [HL.out]; exact hlt) hb
        clear hb hY hN
        go_wp2_with (go_at_call 29; refine hE.mono ?_; rintro e w' ⟨rfl, rfl⟩)
        go_ret
        have e1 := HO.out
        rw [HG.out, List.append_nil] at e1
        subst e1
        exact ⟨ax, cx, _, rfl, rfl, hown, hnx⟩
    · have HG : Hid (rest zs p = []) := rest_end zs p (by rw [HL.out]; omega)
      go_wp2
      go_ret
      have e1 := HO.out
      rw [HG.out, List.append_nil] at e1
      rw [← e1]
      exact ⟨ax, cx, _, rfl, rfl, hown, hnx⟩

end Go.Proofs.Ytckpijgnkkjfkaa
