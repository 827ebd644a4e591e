/-
  What Text of the words package returns, for every list of words: its error, or the text at their front and how many words it takes.
-/
import Derived.WalkSpells
import Derived.Test.YtmmpejhmmgkfkabMath3
import Derived.Test.YtmmpejhmmgkfkabWordsTextEnd
import Derived.Test.YtmmpejhmmgkfkabWordsJoin
namespace Go.Proofs.Ytmmpejhmmgkfkab
open Go.RowKit

theorem text_none (a : Option Addr) (n cap : Nat) (zs : List Int) (w : World) (ha : View .u32 w a zs) (hl : zs.length = n) (hw : Within 4294967296 zs) (hn : 4 * n ≤ 281474976710656) (h : ∀ i, i < 4 * n → nth (joinL zs) i ≠ 0) :
    Calls Try.prog 7 #[.slice a n cap] w fun e w' => e = .returned (.tuple #[.string ⟨#[]⟩, .int .i64 0, .int .i64 11]) ∧ w = w' := by
  have hT := textEnd_none a n cap zs w ha hl hw hn h
  clear ha hl hw h
  go_enter Try.func7, Try.ntmps7
  go_wp2_with fail
  refine hT.mono ?_
  rintro e w' ⟨rfl, rfl⟩
  go_wp2
  go_ret3
  exact ⟨rfl, rfl⟩

set_option maxHeartbeats 1000000 in
theorem text_pad (a : Option Addr) (n cap : Nat) (zs : List Int) (w : World) (L P : Nat) (ha : View .u32 w a zs) (hl : zs.length = n) (hw : Within 4294967296 zs) (hn : 4 * n ≤ 281474976710656)
    (hL : L < n) (hP : P < 4) (h : ∀ i, i < 4 * L + P → nth (joinL zs) i ≠ 0) (h0 : nth (joinL zs) (4 * L + P) = 0) (hpad : nth zs L / 256 ^ P ≠ 0) :
    Calls Try.prog 7 #[.slice a n cap] w fun e w' => e = .returned (.tuple #[.string ⟨#[]⟩, .int .i64 0, .int .i64 12]) ∧ w = w' := by
  have hT := textEnd_at a n cap zs w L P ha hl hw hn hL hP h h0
  obtain ⟨b, off, rfl, _, hc⟩ := ha L (by omega)
  have hx := hw.at (k := L) (by omega)
  clear ha hl hw h h0
  generalize nth zs L = x at hc hx hpad
  have hx0 := hx.1
  have hx1 := hx.2
  have hLi : (L : Int) < (n : Int) := by omega
  rcases (show P = 0 ∨ P = 1 ∨ P = 2 ∨ P = 3 by omega) with rfl | rfl | rfl | rfl
  · have hne : (x == 0) = false := by simpa using hpad
    clear hx hpad
    go_enter Try.func7, Try.ntmps7
    go_wp2_with fail
    refine hT.mono ?_
    rintro e w' ⟨rfl, rfl⟩
    go_wp2
    go_ret3
    exact ⟨rfl, rfl⟩
  · have hne : (x / 256 == 0) = false := by simpa using hpad
    clear hx hpad
    go_enter Try.func7, Try.ntmps7
    go_wp2_with fail
    refine hT.mono ?_
    rintro e w' ⟨rfl, rfl⟩
    go_wp2
    go_ret3
    exact ⟨rfl, rfl⟩
  · have hne : (x / 65536 == 0) = false := by simpa using hpad
    clear hx hpad
    go_enter Try.func7, Try.ntmps7
    go_wp2_with fail
    refine hT.mono ?_
    rintro e w' ⟨rfl, rfl⟩
    go_wp2
    go_ret3
    exact ⟨rfl, rfl⟩
  · have hne : (x / 16777216 == 0) = false := by simpa using hpad
    clear hx hpad
    go_enter Try.func7, Try.ntmps7
    go_wp2_with fail
    refine hT.mono ?_
    rintro e w' ⟨rfl, rfl⟩
    go_wp2
    go_ret3
    exact ⟨rfl, rfl⟩

set_option maxHeartbeats 1000000 in
theorem text_ok (a : Option Addr) (n cap : Nat) (zs : List Int) (w : World) (L P : Nat) (ha : View .u32 w a zs) (hl : zs.length = n) (hw : Within 4294967296 zs) (hn : 4 * n ≤ 281474976710656) (hLb : 4 * (L + 1) ≤ 140737488351232) (hcap : n ≤ cap)
    (hL : L < n) (hP : P < 4) (h : ∀ i, i < 4 * L + P → nth (joinL zs) i ≠ 0) (h0 : nth (joinL zs) (4 * L + P) = 0) (hpad : nth zs L / 256 ^ P = 0) :
    Calls Try.prog 7 #[.slice a n cap] w fun e w' => e = .returned (.tuple #[.string (strOfNums ((joinL zs).take (4 * L + P))), .int .i64 ((L : Int) + 1), .int .i64 0]) ∧ Below w.heap.size w w' := by
  have hT := textEnd_at a n cap zs w L P ha hl hw hn hL hP h h0
  have hJ := join_any a (L + 1) cap (zs.take (L + 1)) w (ha.take _) (by rw [List.length_take]; omega) hLb (within_of_take hw)
  obtain ⟨b, off, rfl, _, hc⟩ := ha L (by omega)
  have hx := hw.at (k := L) (by omega)
  have e1 : joinL (zs.take (L + 1)) = (joinL zs).take (4 * (L + 1)) := joinL_take zs (L + 1)
  have hlen : (joinL zs).length = 4 * n := by rw [joinL_len, hl]
  rw [e1] at hJ
  clear ha hl hw h h0 e1
  generalize nth zs L = x at hc hx hpad
  generalize joinL zs = js at *
  have hx0 := hx.1
  have hx1 := hx.2
  have hLi : (L : Int) < (n : Int) := by omega
  have HJL : Hid (js.length = 4 * n) := hlen
  have HC : Hid (∀ (w' : World), w'.ownsRow w.heap.size 5 1 (.slice (some ⟨w.heap.size, 0, none⟩) (4 * (L + 1)) (4 * (L + 1))) (4 * (L + 1)) ((js.take (4 * (L + 1))).map (Value.int .u8)) →
      (convert 51 9 (.slice (some ⟨w.heap.size, 0, none⟩) (4 * L + P) (4 * (L + 1)))).run Try.prog w' = .ok (.string (strOfNums (js.take (4 * L + P)))) w') := fun w' hown => by
    refine run_convert_bytes_arg w' _ _ Try.underlying51 Try.underlying5 w.heap.size 0 (4 * L + P) (4 * (L + 1)) (js.take (4 * L + P)) (by rw [List.length_take, HJL.out]; omega) (fun i hi => ?_) _ Try.underlying9
    obtain ⟨b', off', e, _, hcell⟩ := View.ofRow hown (by rw [List.length_take, HJL.out]; omega) i (by rw [List.length_take, HJL.out]; omega)
    simp at e
    obtain ⟨rfl, rfl⟩ := e
    rw [hcell, nth_take _ _ _ (by omega)]
    have := nth_take js i (4 * L + P) hi
    rw [← this]; rfl
  clear hlen
  rcases (show P = 0 ∨ P = 1 ∨ P = 2 ∨ P = 3 by omega) with rfl | rfl | rfl | rfl
  · have hne : x = 0 := by simpa using hpad
    have hne' : (x == 0) = true := by simpa using hne
    clear hx hpad hne
    go_enter Try.func7, Try.ntmps7
    go_wp2_with fail
    refine hT.mono ?_
    rintro e w' ⟨rfl, rfl⟩
    go_wp2_with fail
    refine hJ.mono ?_
    rintro e w1 ⟨rfl, hown, hb⟩
    have hcv := HC.out w1 hown
    rw [Nat.add_zero] at hcv
    rw [Nat.add_zero]
    clear hown HC hT hJ
    go_wp2
    go_ret3
    exact ⟨rfl, hb⟩
  · have hne : x / 256 = 0 := by simpa using hpad
    have hne' : (x / 256 == 0) = true := by simpa using hne
    clear hx hpad hne
    go_enter Try.func7, Try.ntmps7
    go_wp2_with fail
    refine hT.mono ?_
    rintro e w' ⟨rfl, rfl⟩
    go_wp2_with fail
    refine hJ.mono ?_
    rintro e w1 ⟨rfl, hown, hb⟩
    have hcv := HC.out w1 hown
    clear hown HC hT hJ
    go_wp2
    go_ret3
    exact ⟨rfl, hb⟩
  · have hne : x / 65536 = 0 := by simpa using hpad
    have hne' : (x / 65536 == 0) = true := by simpa using hne
    clear hx hpad hne
    go_enter Try.func7, Try.ntmps7
    go_wp2_with fail
    refine hT.mono ?_
    rintro e w' ⟨rfl, rfl⟩
    go_wp2_with fail
    refine hJ.mono ?_
    rintro e w1 ⟨rfl, hown, hb⟩
    have hcv := HC.out w1 hown
    clear hown HC hT hJ
    go_wp2
    go_ret3
    exact ⟨rfl, hb⟩
  · have hne : x / 16777216 = 0 := by simpa using hpad
    have hne' : (x / 16777216 == 0) = true := by simpa using hne
    clear hx hpad hne
    go_enter Try.func7, Try.ntmps7
    go_wp2_with fail
    refine hT.mono ?_
    rintro e w' ⟨rfl, rfl⟩
    go_wp2_with fail
    refine hJ.mono ?_
    rintro e w1 ⟨rfl, hown, hb⟩
    have hcv := HC.out w1 hown
    clear hown HC hT hJ
    go_wp2
    go_ret3
    exact ⟨rfl, hb⟩

end Go.Proofs.Ytmmpejhmmgkfkab
